/-
  Walks of the law BatchBack, its first half: changes made, walked, gathered.
-/
import Derived.Test.YtkbeppmjdjddhaaDoorBatchLawF
import Derived.Test.YtkbeppmjdjddhaaDoorBatchTexts
import Derived.Test.YtkbeppmjdjddhaaDoorBatchRound
import Derived.OwnWalkIn
import Derived.Lib.ItoaLen
import Derived.TacticsInMore
namespace Go.Proofs.YtkbeppmjdjddhaaDoor.Batch
open Go Go.RowKit Go.Shelf
open Nets (Tab str)
attribute [local go_sem] Oper.semAt_some

/-- An append whose run is known, in a list that is walked inside a fence. -/
theorem wpListIn_append_run {F : Fence} {n : Nat} {P : Program} (w : World) {ops : Array Oper} {rest : List Oper} {o : Oper} {a : Act} {Q : Exit → Act → World → Prop} (hg : o.guard = none) (s x : Operand) (t : TypeId)
    (hop : o.op = Op.call { callee := Callee.builtin Builtin.append, args := #[s, x], argTypes := #[t, t] }) (vs vx : Value) (hs : a.eval s = vs) (hx : a.eval x = vx) (v' : Value) (w' : World)
    (hrun : (Builtin.append_ #[t, t] o.type #[vs, vx]).run P w = .ok v' w') (hK : wpListIn F n P ops Q rest (a.put o.dst v') w') : wpListIn F n P ops Q (o :: rest) a w := by
  refine wpListIn_plain hg fun K hK' => ?_
  unfold Oper.wpIn
  refine ⟨?_, ?_⟩
  · simp [Oper.about, hop, resolve, Target.leads, Sem.run_pure]
  · rw [Oper.semAt_plain F _ _ (by rw [hop]; intro c hc'; cases hc')]
    simp [execOp, hop, resolve, invoke, builtin, hs, hx, hrun, Result.andThen]
    exact hK' _ _ hK
/-- Between two rounds: the changes so far, in the variable's box. -/
def GotC (w w1 : World) (pre : List Chg) (W : World) : Prop := ∃ u, Boxed W w.heap.size chsT u ∧ W.ownsRow w1.heap.size chgT 3 u pre.length (pre.flatMap chC) ∧ w1.heap.size ≤ W.heap.size ∧ Below w.heap.size w W
theorem gotC_own {w w1 : World} {α : Type} {cv : List α → List Chg} {B : Nat} (hB : w.heap.size ≤ B) : OwnFrom B (fun (pre : List α) W => GotC w w1 (cv pre) W) := fun s X Y row hs hg hr => by
  obtain ⟨u, h1, h2, h3, h4⟩ := hs
  refine ⟨u, boxed_own w.heap.size chsT (fun (_ : Unit) => u) () X Y row h1 hg (fun r e => (hr r e).2), h2.kept hg ?_, Nat.le_trans h3 hg.size, h4.grown hg h4.size fun k e => by have := (hr k e).1; omega⟩
  rcases h2.2 with ⟨rfl, _⟩ | ⟨g, cap, cur, rfl, _, hgb, _⟩
  · exact .inl rfl
  · refine .inr fun e' => ?_
    obtain ⟨_, o, ho, hcl⟩ := hr g (by simpa [Value.ownBlock] using e'.symm)
    rw [hgb] at ho; cases ho; cases hcl
theorem gotC_step {w w1 W : World} {kb : Option Nat} {ua : Option Addr} {uc : Nat} {pre : List Chg} (hu : Boxed W w.heap.size chsT (.slice ua pre.length uc)) (ho : W.ownsRow w1.heap.size chgT 3 (.slice ua pre.length uc) pre.length (pre.flatMap chC)) (h1 : w1.heap.size ≤ W.heap.size) (hBW : Below w.heap.size w W)
    (hl : pre.length ≤ 100000) (x : Chg) (hw : w.heap.size < w1.heap.size) (hk1 : ∀ k, kb = some k → k < w1.heap.size) (hk2 : ∀ k, kb = some k → k ≠ w.heap.size) :
    ∃ v' w3, (Builtin.append_ #[chsT, chsT] chsT #[.slice ua pre.length uc, .slice (some ⟨W.heap.size, 0, none⟩) 1 1]).run Tryd.prog (W.alloc (boxC chgT x)) = .ok v' w3 ∧ ∃ a n c, v' = .slice a n c ∧ w3.cell? ⟨w.heap.size, 0, none⟩ = some (.slice ua pre.length uc) ∧ w3.frozen? ⟨w.heap.size, 0, none⟩ = false ∧
      KeepsFrom w1.heap.size W (w3.setCell ⟨w.heap.size, 0, none⟩ v') ∧ Still kb W (w3.setCell ⟨w.heap.size, 0, none⟩ v') ∧ GotC w w1 (pre ++ [x]) (w3.setCell ⟨w.heap.size, 0, none⟩ v') := by
  obtain ⟨i0, hi, hz0, hz1, hz2⟩ := info_parts infoC
  obtain ⟨v', w3, hr, h2, h3, _⟩ := run_append_own (P := Tryd.prog) (W.alloc (boxC chgT x)) w1.heap.size chsT chsT chgT i0 _ 3 40 Tryd.underlying59 hi hz0 hz1 hz2 rfl (by decide) _ pre.length _ (ho.alloc _) ⟨W.heap.size, 0, none⟩ 1 1 (chC x) rfl
    (fun j u hu => by rw [addr_add]; exact new_box W chgT x j u hu) (one_cell x) (by unfold maxLen; omega) (by omega) (by simp; omega)
  have hlt := (ho.alloc (boxC chgT x)).lt
  have hu3 : Boxed w3 w.heap.size chsT (.slice ua pre.length uc) := (hu.alloc _).kept h3 fun e => by have := (hlt _ e.symm).1; omega
  have hB4 : Below w.heap.size W (w3.setCell ⟨w.heap.size, 0, none⟩ v') := (((Below.refl w.heap.size W).alloc (by omega) _).grown h3 (by simp; omega) (fun k hk => by have := (hlt k hk).1; omega)).setCell (p := ⟨w.heap.size, 0, none⟩) (Nat.le_refl _) v'
  obtain ⟨a3, c3, e3⟩ := owns_slice h2
  refine ⟨v', w3, hr, a3, _, c3, e3, hu3.cell, hu3.frozen, ?_, ?_, v', hu3.set v', ?_, ?_, hBW.trans hB4⟩
  · refine ((KeepsOthers.alloc _ _).from _).trans (((KeepsOthers.of_grownBy h3 fun j o ej hj => ?_).from _).trans ((KeepsOthers.setCell _ _ _).from _))
    rcases (ho.alloc (boxC chgT x)).2 with ⟨e, _⟩ | ⟨g, cap, cur, e, _, hgb, _⟩
    · rw [e] at ej; cases ej
    · rw [e] at ej
      obtain rfl : g = j := by simpa [Value.ownBlock] using ej
      rw [hgb] at hj; cases hj; rfl
  · refine (Still.alloc (Still.refl _ W) (boxC chgT x)).trans ⟨?_, fun k hk hkl => ?_⟩
    · exact Nat.le_trans h3.size (by simp [World.setCell])
    · have h5 := hk1 k hk
      refine (Below.heap_setCell _ _ _ _ (fun e => hk2 k hk e)).trans (h3.block k hkl fun e => ?_)
      have := (hlt _ e.symm).1
      omega
  · have h5 : (w3.setCell ⟨w.heap.size, 0, none⟩ v').ownsRow w1.heap.size chgT 3 v' (pre.length + 1) (pre.flatMap chC ++ chC x) := h2.kept (grownBy_setCell' w3 w.heap.size v') (.inr fun e => by have := (h2.lt _ e).1; omega)
    rw [flat_snoc, List.length_append]
    exact h5
  · exact Nat.le_trans (Nat.le_trans h1 (by simp)) (Nat.le_trans h3.size (by simp [World.setCell]))

theorem put_len (l : List UInt8) (h : l.length ≤ 1000) : (Nets.putS l).length ≤ 1022 := by
  have h1 : (Lib.decDigits l.length).length ≤ 20 := by rw [Lib.decDigits_length]; exact Lib.nDigits_le20 _ (by omega)
  unfold Nets.putS
  simp
  omega
theorem write_len {x : Chg} (h : LightC x) : (writeS x).length ≤ 100000 := by
  obtain ⟨h1, h2⟩ := h
  have hk := put_len (bl x.key) (by rw [bl_length]; omega)
  have hv := put_len (bl x.val) (by rw [bl_length]; omega)
  have hp := put_len (bl ⟨#[43]⟩) (by decide)
  have hq := put_len (bl ⟨#[45]⟩) (by decide)
  unfold writeS parts Nets.rowS
  split <;> simp <;> omega
theorem guard_chg : Tryd.prog.eqGuardType Tryd.prog.depth chgT = false := by kernel_rfl
/-- One operation of a quiet walk: a change is held against itself. -/
theorem quiet_neq_chg {C : World → Prop} {o : Oper} {a : Act} {K : Act → Prop} (x y : Operand) (c : Chg) (ho : o.op = .binOp .neq chgT x y chgT) (hx : a.eval x = chV c) (hy : a.eval y = chV c) (h : K (a.put o.dst (.bool false))) : o.quiet Tryd.prog a C K :=
  ⟨_, fun w _ => by
    have h1 := neq_chg w c c
    rw [decide_eq_true rfl] at h1
    unfold Oper.quietAt execOp
    simp [ho, hx, hy, h1, run_eqGuard_agg w .neq chgT x y _ _ guard_chg]
    exact ⟨rfl, rfl⟩, h⟩
/-- What lies there behind the range: the box of the number, the box of the changes. -/
structure Aft (w wr wA : World) (d : Bt) (Q : List Chg) (D m : Nat) (u : Value) (W : World) : Prop where
  num : Boxed W w.heap.size 3 (.int .i64 m)
  all : Boxed W wr.heap.size chsT u
  row : W.ownsRow wA.heap.size chgT 3 u m ((Q.take m).flatMap chC)
  mem : Mem W d Q
  below : Below w.heap.size w W
  kept : W.heap[D]? = some (.deferred (some []))
  far : w.heap.size ≤ D
theorem Aft.reads {w wr wA : World} {d : Bt} {Q : List Chg} {D m : Nat} {u : Value} {W : World} (h : Aft w wr wA d Q D m u W) (hm : m ≤ Q.length) : ReadsC W u (Q.take m) := by
  have e : (Q.take m).length = m := by rw [List.length_take, Nat.min_eq_left hm]
  refine owns_reads (B := wA.heap.size) (t := chgT) ?_
  rw [e]
  exact h.row
theorem aft_set {w wr wA W : World} {d : Bt} {Q : List Chg} {D m : Nat} {u : Value} {s : Int} (n : Nat) (hn : Boxed W w.heap.size 3 (.int .i64 s)) (ha : Boxed W wr.heap.size chsT u) (hr : W.ownsRow wA.heap.size chgT 3 u m ((Q.take m).flatMap chC)) (hm : Mem W d Q) (hb : Below w.heap.size w W)
    (hk : W.heap[D]? = some (.deferred (some []))) (hD : wA.heap.size ≤ D) (hw : w.heap.size < wr.heap.size) (hwA : wr.heap.size ≤ wA.heap.size) (hd : w.heap.size < d.B) :
    Aft w wr wA d Q D m u ((W.drewN n).setCell ⟨w.heap.size, 0, none⟩ (.int .i64 m)) := by
  have hf : Fr (fun k => k = w.heap.size) W ((W.drewN n).setCell ⟨w.heap.size, 0, none⟩ (.int .i64 m)) := ((Fr.refl (fun k => k = w.heap.size) W).drewN n).setCell (F := fun k => k = w.heap.size) (fun _ => rfl) _
  have hbd : Boxed (W.drewN n) w.heap.size 3 (.int .i64 s) := ((below_drewN (Below.refl W.heap.size W) n).block _ hn.lt).trans hn
  refine ⟨hbd.set _, (hf.block _ ha.lt (by omega)).trans ha, Fr.owns hr hf fun k hk e => ?_, hm.frame hf fun k e ho => ?_, ?_, ?_, by omega⟩
  · have := (hr.lt k hk).1; omega
  · have := (hm.own_lt ho).2; omega
  · exact (below_drewN hb n).setCell (p := ⟨w.heap.size, 0, none⟩) (Nat.le_refl _) _
  · have hlt : D < W.heap.size := (Array.getElem?_eq_some_iff.1 hk).1
    exact (hf.block D hlt (by omega)).trans hk
theorem aft_drew {w wr wA W : World} {d : Bt} {Q : List Chg} {D m : Nat} {u : Value} {s : Int} (n : Nat) (hs : s = m) (hn : Boxed W w.heap.size 3 (.int .i64 s)) (ha : Boxed W wr.heap.size chsT u) (hr : W.ownsRow wA.heap.size chgT 3 u m ((Q.take m).flatMap chC)) (hm : Mem W d Q) (hb : Below w.heap.size w W)
    (hk : W.heap[D]? = some (.deferred (some []))) (hD : wA.heap.size ≤ D) (hw : w.heap.size < wr.heap.size) (hwA : wr.heap.size ≤ wA.heap.size) :
    Aft w wr wA d Q D m u (W.drewN n) := by
  subst hs
  have hf : Below W.heap.size W (W.drewN n) := below_drewN (Below.refl _ _) n
  exact ⟨(hf.block _ hn.lt).trans hn, (hf.block _ ha.lt).trans ha, Nets.owns_below hr hf, hm.below hf, below_drewN hb n, (hf.block D (Array.getElem?_eq_some_iff.1 hk).1).trans hk, by omega⟩
set_option maxRecDepth 100000 in
set_option maxHeartbeats 8000000 in
theorem batchBack_any (v : Value) (l : List Chg) (s : Int) (w : World) (hr : ReadsC w v l) (ho : ∀ c ∈ l, OkC c) (hm : l.length ≤ 9223372036854775807) (s0 : -9223372036854775808 ≤ s) (s1 : s ≤ 9223372036854775807) (hT : Tab w) :
    Calls Tryd.prog 7 #[v, .int .i64 s] w fun e w' => e = .returned (.bool true) ∧ Below w.heap.size w w' := by
  have hA : Below w.heap.size w (w.alloc (.cells #[.int .i64 s] 3)) := (Below.refl _ _).alloc (Nat.le_refl _) _
  have HA := Lib.hid hA
  have HTT := Lib.hid hT
  have HW := Lib.hid (fun W (hW : Below w.heap.size w W) => works_any W (hT.below hW))
  have HL := Lib.hid (fun W (hW : Below w.heap.size w W) => light_any v l W (hr.below hW) ho hm)
  have HR := Lib.hid hr
  have HO := Lib.hid ho
  obtain ⟨va, vc, rfl⟩ := reads_form hr
  clear hr hT hA ho
  refine (callsIn_wide (n := 8)).1 ?_
  refine callsIn_of_wp_marks Tryd.func7 rfl trivial ?_ rfl
  simp only [Tryd.ntmps7, List.size_toArray, List.length_cons, List.length_nil, Nat.reduceAdd, Nat.reduceSub, Array.replicate_succ, Array.replicate_zero, List.push_toArray, List.append_toArray, List.nil_append, List.cons_append]
  refine wpIn_wide.2 ?_
  go_wp2_with fail
  refine (HW.out _ HA.out).mono ?_
  rintro e w1 ⟨rfl, hb1⟩
  have HXB : Hid (∀ W, Below w1.heap.size w1 W → Boxed W w.heap.size 3 (.int .i64 s)) := Lib.hid fun W hW => by
    have h1 : Boxed w1 w.heap.size 3 (.int .i64 s) := (hb1.block _ (by simp)).trans (heap_alloc_new w _)
    exact (hW.block _ h1.lt).trans h1
  have HBW1 := Lib.hid (HA.out.trans (hb1.mono HA.out.size))
  clear hb1
  go_wp2_with fail
  refine (new_any w1).mono ?_
  rintro e w2 ⟨d, rfl, hp, hB, hm1, hb⟩
  have HM := Lib.hid (And.intro hm1 (And.intro (Nat.le_of_eq hB.symm) hb))
  have HBW2 := Lib.hid (HBW1.out.trans (hb.mono HBW1.out.size))
  clear hm1 hb hB hp
  go_wp2_with fail
  refine (HL.out _ HBW2.out).mono ?_
  rintro e w3 ⟨b, rfl, hbl, rfl⟩
  have HBL := Lib.hid hbl
  clear hbl
  cases b
  · go_wp2_with fail
    exact ⟨_, results_tmp rfl _ _ _, rfl, HBW2.out⟩
  · have HLL := Lib.hid (HBL.out rfl)
    have hll : l.length ≤ 40 := HLL.out.1
    clear HBL
    go_wp2_with fail
    go_loopw [6] (fun i wr => OnesAt w2 d l i wr) (fun i _ => l.length - (intOf i).toNat)
    case atStart => exact ⟨0, d, Nat.zero_le _, rfl, HM.out.1, Step.refl _ _⟩
    case round =>
      obtain ⟨k, d2, hk, rfl, hm2, hst2⟩ := hrel
      have hpb : d2.pb = d.pb := hst2.pb
      have HM2 := Lib.hid (And.intro hm2 hst2)
      have HB12 : Hid (Below w1.heap.size w1 wr) := Lib.hid (HM.out.2.2.trans (hst2.below HM.out.1 HM.out.2.1))
      have HBW : Hid (Below w.heap.size w wr) := Lib.hid (HBW1.out.trans (HB12.out.mono HBW1.out.size))
      have hG := good_madeL (l.take k)
      have HG := Lib.hid hG
      clear hm2 hst2 hG
      by_cases hlt : k < l.length
      · rcases HR.out with ⟨_, _, _, h0⟩ | ⟨_, b, off, cap, e, h3, h4⟩
        · exfalso; rw [h0] at hlt; simp at hlt
        · obtain ⟨rfl, rfl⟩ : va = some ⟨b, off, none⟩ ∧ vc = cap := by simpa using e
          clear e
          obtain ⟨x, hkx⟩ : ∃ x, l[k]? = some x := ⟨l[k], List.getElem?_eq_getElem hlt⟩
          obtain ⟨c0, c1, c2⟩ := three (range_below (h4 k x hkx) h3 HBW.out)
          have HONE := Lib.hid (one_any HM2.out.1 HG.out x (HO.out x (List.mem_of_getElem? hkx)))
          rw [hpb] at HONE
          have HKX := Lib.hid hkx
          clear h3 h4 hkx
          go_wp2_with fail
          refine HONE.out.mono ?_
          rintro e w4 ⟨d4, rfl, hm4, hst4⟩
          have HS4 := Lib.hid (ones_step HKX.out HM2.out.2 hm4 hst4)
          clear hm4 hst4
          go_wp2_with fail
          go_roundw
          case rel => exact HS4.out
          case measure => simp [intOf]; omega
      · have htk : l.take k = l := List.take_of_length_le (by omega)
        rw [htk] at HM2 HG
        have HDB : Hid (w1.heap.size ≤ d2.B) := Lib.hid (by rw [HM2.out.2.B]; exact HM.out.2.1)
        have HFN := Lib.hid (madeL_fine HLL.out.2)
        have HLT : Hid (∀ z ∈ madeL l, LightC z) := Lib.hid fun z hz => madeL_light HLL.out.2 hz
        have HNM : Hid (∀ z ∈ madeL l, z.norm = z) := Lib.hid fun z hz => madeL_norm hz
        generalize madeL l = Q at *
        have hql : Q.length ≤ 2000 := HG.out.few
        have HALL := Lib.hid (all_any (HM2.out.1.alloc (.cells #[.slice none 0 0] chsT)) (by omega : Q.length ≤ 100000))
        rw [hpb] at HALL
        go_wp2_with fail
        refine HALL.out.mono ?_
        rintro e wA ⟨vI, bI, rfl, hc, hb, hoI, hBA⟩
        go_wp2_with fail
        have hsz : wr.heap.size + 1 ≤ wA.heap.size := by have := hBA.size; simpa using this
        have hbox : Boxed wA wr.heap.size chsT (.slice none 0 0) := (hBA.block _ (by simp)).trans (heap_alloc_new wr _)
        have hBr : Below wr.heap.size wr wA := ((Below.refl wr.heap.size wr).alloc (Nat.le_refl _) _).trans (hBA.mono (by simp))
        have hkv : ∀ k, vI.ownBlock = some k → wr.heap.size + 1 ≤ k ∧ k < wA.heap.size := fun k hk => by have := hoI.lt k hk; simpa using this
        have hst := all_stops (Subtype.val : {x // x ∈ Q} → Chg) Fence.wide (8 - 1) trivial rfl (by omega) bI vI Q.attach (by simp; omega) wA hb hc (by rw [List.attach_map_subtype_val]; exact owns_reads hoI)
        have hwr : w.heap.size < wr.heap.size := Nat.lt_of_lt_of_le (HXB.out w1 (Below.refl _ _)).lt HB12.out.size
        clear hBA hc hb hoI
        refine (wpIn_wide (n := 8)).1 ?_
        refine wpIn_rangeFunc_ownH rfl (by omega) (gf := 42) (lb := #[.pointer (some ⟨bI, 0, none⟩)]) rfl trivial (enters_of Tryd.func42 (by kernel_rfl) rfl)
          hst Still.trans (still_b (fun k hk => (hkv k hk).2)) (Below.refl _ _) (fun _ => rfl)
          (fun pre W => GotC wr wA (pre.map (·.1)) W ∧ ∀ j : Nat, j < pre.length → (j : Int) ≠ s) (fun c pre' W => c = .exit 2 ∧ ∃ pre x, pre' = pre ++ [x] ∧ GotC wr wA (pre.map (·.1)) W ∧ ((pre.length : Nat) : Int) = s)
          (OwnFrom.and (gotC_own (by omega)) (ownFrom_pure _ _))
          (fun c sx X Y row hs hg hr => by obtain ⟨e, pre, x, e2, hG, e3⟩ := hs; exact ⟨e, pre, x, e2, gotC_own (cv := fun pre : List {x // x ∈ Q} => pre.map (·.1)) (by omega) pre X Y row hG hg hr, e3⟩)
          ⟨⟨_, hbox, World.ownsRow_nil _ _ _ _, Nat.le_refl _, hBr⟩, fun j hj => by simp at hj⟩
          (fun x a' W => ∃ bx, wA.heap.size ≤ bx ∧ Lies W bx #[.string x.1.key, .string x.1.val, .bool x.1.gone] chgT ∧ a' = { tmps := #[.slice va l.length vc, .int .i64 s, undef, .pointer (some ⟨w.heap.size, 0, none⟩), .bool false, ptr d.pb, .int .i64 k, .pointer (some ⟨wr.heap.size, 0, none⟩), .pointer (some ⟨bx, 0, none⟩), undef, undef, undef, undef, undef, undef, .bool true, .bool false, ptr d.pb, ptr d.pb, .bool false, .bool false, .slice va l.length vc, .bool true, .bool false, .bool false, undef, undef, .int .i64 k, .slice va l.length vc, .int .i64 l.length, .bool false, u31, u32, u33, u34, u35, u36, u37, u38, ptr d.pb, itV bI, chV x.1, undef, undef, undef, undef, undef, undef, undef, undef, undef, undef, undef, undef, undef, undef, undef, undef, undef, undef, undef, undef, undef, undef, undef, undef, undef, undef, undef, undef, undef, undef, undef, undef, undef, undef, undef, undef, undef, undef, undef, undef, undef, undef, undef, undef, undef, undef, undef, undef, undef, undef, undef, undef, undef, undef, undef, undef, undef, undef, undef, undef, undef, undef, undef, undef, undef, undef, undef, undef, undef, undef, undef, undef, undef, undef, undef, undef, undef, undef, undef, undef, undef, undef, undef, undef, undef, undef, undef, undef, undef, undef, undef, undef, undef, undef, undef], defers := [] })
          (fun x a' _ X Y row hs hg hr => by
            obtain ⟨bx, h1, h2, h3⟩ := hs
            refine ⟨bx, h1, (hg.block bx h2.lt fun e => ?_).trans h2, h3⟩
            obtain ⟨_, o, ho, hcl⟩ := hr bx e.symm
            rw [show X.heap[bx]? = _ from h2] at ho; cases ho; cases hcl)
          ?assign ?body ?done ?stop
        case assign =>
          rintro lr pre x W K ⟨⟨u, hu, ho, h1, hBW⟩, hne⟩ hK
          gi_wp2
          exact hK _ _ ((KeepsOthers.alloc _ _).from _) ((Still.refl _ W).alloc _) ⟨⟨u, hu.alloc _, ho.alloc _, by simp; omega, hBW.alloc hBW.size _⟩, hne⟩ ⟨W.heap.size, h1, Lies.new W _ _, rfl⟩
        case body =>
          rintro lr pre x a' W hlW hrl ⟨⟨u, hu, ho, h1, hBW⟩, hne⟩ ⟨bx, hbx, hLx, rfl⟩ hlt2
          obtain ⟨ua, uc, rfl⟩ := owns_slice ho
          have hql2 : Q.attach.length = Q.length := List.length_attach
          have hpl : (pre.map (·.1)).length ≤ 100000 := by rw [List.length_map]; omega
          obtain ⟨v', w3, hr, a3, n3, c3, rfl, hc3, hf3, hk3, hs3, hgo⟩ := gotC_step hu ho h1 hBW hpl x.1 (by omega) (fun k hk => (hkv k hk).2) (fun k hk => by have := (hkv k hk).1; omega)
          have hsb := (HXB.out W (HB12.out.trans (hBW.mono HB12.out.size))).cell
          have hab := hu.cell
          obtain ⟨y0, y1, y2, _, _, _⟩ := lies3 hLx
          have HGO := Lib.hid (And.intro hk3 (And.intro hs3 hgo))
          have HG0 : Hid (GotC wr wA (pre.map (·.1)) W) := Lib.hid ⟨_, hu, ho, h1, hBW⟩
          have HNE := Lib.hid hne
          have HRUN := Lib.hid hr
          clear hk3 hs3 hgo hne hu ho hBW hLx hr hst hkv hbox hBr hrl
          simp only [List.length_map] at hc3 hab HRUN
          by_cases he : ((pre.length : Nat) : Int) = s
          · have hd : (((pre.length : Nat) : Int) == s) = true := by simpa using he
            gi_wp2
            exact ⟨KeepsFrom.refl _ _, rfl, pre, x, rfl, HG0.out, he⟩
          · have hd : (((pre.length : Nat) : Int) == s) = false := by simpa using he
            gi_wp2_with (gi_at_builtin; refine wpListIn_append_run _ rfl _ _ _ rfl _ _ rfl rfl _ _ HRUN.out ?_)
            refine ⟨HGO.out.1, HGO.out.2.1, ?_, fun j hj => ?_⟩
            · rw [List.map_append]; exact HGO.out.2.2
            · rw [List.length_append, List.length_singleton] at hj
              by_cases hjp : j = pre.length
              · rw [hjp]; exact he
              · exact HNE.out j (by omega)
        case done =>
          rintro D xs W hD rfl ⟨⟨u, hu, ho, h1, hBW⟩, hne⟩ hK
          rw [List.attach_map_subtype_val] at ho
          rw [List.length_attach] at hne
          obtain ⟨m, hm0⟩ : ∃ m, m = Q.length := ⟨_, rfl⟩
          have hm1 : m ≤ Q.length := by omega
          have hO : W.ownsRow wA.heap.size chgT 3 u m ((Q.take m).flatMap chC) := by rw [hm0, List.take_length]; exact ho
          clear ho
          obtain ⟨ua, uc, rfl⟩ := owns_slice hO
          have hsb := HXB.out W (HB12.out.trans (hBW.mono HB12.out.size))
          have hsc := hsb.cell
          have hsf := hsb.frozen
          have hMW : Mem W d2 Q := HM2.out.1.below hBW
          have hBWw : Below w.heap.size w W := HBW.out.trans (hBW.mono HBW.out.size)
          have HLENQ : Hid (∀ n, Calls Tryd.prog 19 #[ptr d.pb] (W.drewN n) fun e w' => e = .returned (.int .i64 Q.length) ∧ w' = W.drewN n) := Lib.hid fun n => by
            have := len_any (hMW.below (below_drewN (Below.refl _ _) n))
            rw [hpb] at this
            exact this.mono fun e w' he => ⟨he.1, he.2.symm⟩
          have hdB : w.heap.size < d2.B := Nat.lt_of_lt_of_le (HXB.out w1 (Below.refl _ _)).lt HDB.out
          have HSET := Lib.hid (fun n => aft_set (wA := wA) (m := m) n hsb hu hO hMW hBWw hK hD hwr (by omega) hdB)
          have HDRW := Lib.hid (fun n (hs : s = m) => aft_drew (wA := wA) (m := m) n hs hsb hu hO hMW hBWw hK hD hwr (by omega))
          clear hst hkv hbox hBr hsb hMW hBWw hu hO hBW hK hD hdB
          by_cases hs1 : s < 0
          · subst hm0
            go_wp2_with fail
            go_quiet (fail)
            go_wp2_with fail
            refine (HLENQ.out nq).mono ?_
            rintro e W1 ⟨rfl, rfl⟩
            go_wp2_with fail
            obtain ⟨W2, hW2, HAF⟩ : ∃ W2, (W.drewN nq).setCell ⟨w.heap.size, 0, none⟩ (.int .i64 Q.length) = W2 ∧ Hid (Aft w wr wA d2 Q D Q.length (.slice ua Q.length uc) W2) := ⟨_, rfl, Lib.hid (HSET.out nq)⟩
            rw [hW2]
            clear hW2 HSET HDRW HLENQ hsc hsf
            have HRD := Lib.hid (HAF.out.reads hm1)
            go_wp2_with fail
            have htx := texts_walk HAF.out.mem (by omega) HFN.out (HTT.out.below (HAF.out.below.mono (Nat.le_refl _)))
            rw [hpb] at htx
            have HTX := Lib.hid htx
            clear htx
            refine HTX.out.mono ?_
            rintro e W3 ⟨vt, rfl, hO3, hb3⟩
            obtain ⟨ta, tc, rfl⟩ := owns_slice hO3
            have HTR := Lib.hid (texts_reads hO3)
            have HB3 := Lib.hid hb3
            have hlen := len_any (HAF.out.mem.below hb3)
            rw [hpb] at hlen
            have HLN3 := Lib.hid hlen
            have hn3 := (show Boxed W3 w.heap.size 3 (.int .i64 Q.length) from (hb3.block _ HAF.out.num.lt).trans HAF.out.num).cell
            have ha3 := (show Boxed W3 wr.heap.size chsT (.slice ua Q.length uc) from (hb3.block _ HAF.out.all.lt).trans HAF.out.all).cell
            clear hlen hO3 hb3
            go_wp2_with fail
            refine HLN3.out.mono ?_
            rintro e W4 ⟨rfl, rfl⟩
            go_wp2_with fail
            clear hn3 ha3
            have HCA : Hid (∀ W, Below W2.heap.size W2 W → W.cell? ⟨wr.heap.size, 0, none⟩ = some (.slice ua Q.length uc)) := Lib.hid fun W hW => (show Boxed W wr.heap.size chsT (.slice ua Q.length uc) from (hW.block _ HAF.out.all.lt).trans HAF.out.all).cell
            go_loopw [10] (fun i wq => ∃ j : Nat, j ≤ Q.length ∧ i = .int .i64 j ∧ Below W3.heap.size W3 wq) (fun i _ => Q.length - (intOf i).toNat)
            case atStart => exact ⟨0, Nat.zero_le _, rfl, Below.refl _ _⟩
            case round =>
              obtain ⟨j, hj, rfl, hbq⟩ := hrel
              have HBQ : Hid (Below W2.heap.size W2 wr) := Lib.hid (HB3.out.trans (hbq.mono HB3.out.size))
              have HBQ3 := Lib.hid hbq
              have ha4 := HCA.out wr HBQ.out
              clear hbq
              by_cases hjl : j < Q.length
              · have hjq : j < Q.length := by omega
                obtain ⟨x, hx⟩ : ∃ x, Q[j]? = some x := ⟨Q[j], List.getElem?_eq_getElem hjq⟩
                have hxm : x ∈ Q := List.mem_of_getElem? hx
                have hxt : (Q.take Q.length)[j]? = some x := by rw [List.getElem?_take_of_lt hjl]; exact hx
                rcases HRD.out with ⟨_, _, e, h0⟩ | ⟨h0, ub, uo, ucap, e, h3, h4⟩
                · exfalso
                  rw [h0] at hxt
                  simp at hxt
                obtain ⟨rfl, hcap⟩ : ua = some ⟨ub, uo, none⟩ ∧ uc = ucap := by
                  have e' := e
                  simp only [Value.slice.injEq] at e'
                  exact ⟨e'.1, e'.2.2⟩
                clear e hcap
                have HUC : Hid (∀ W, Below W2.heap.size W2 W → ∀ (i : Nat) (z : Chg), i < Q.length → Q[i]? = some z → W.cell? ⟨ub, uo + i * 3, none⟩ = some (.string z.key) ∧ W.cell? ⟨ub, uo + i * 3 + 1, none⟩ = some (.string z.val) ∧ W.cell? ⟨ub, uo + i * 3 + 2, none⟩ = some (.bool z.gone)) := Lib.hid fun W hW i z hi hz =>
                  three (range_below (h4 i z (by rw [List.getElem?_take_of_lt hi]; exact hz)) h3 hW)
                clear h3 h4 h0
                obtain ⟨c0, c1, c2⟩ := HUC.out wr HBQ.out j x hjl hx
                have hat : at? Chg.key x.key Q = some x := at_mem Chg.key HG.out.rise x hxm
                have hget := get_any (HAF.out.mem.below HBQ.out) HG.out.rise (by omega) x.key
                rw [hpb, hat, show tells x.key Q = x by unfold tells; rw [hat]] at hget
                have HGET := Lib.hid hget
                obtain ⟨tb, to, tcap, et, _, htc⟩ := reads_at HTR.out (by rw [List.length_map]; omega)
                simp only [List.length_map] at et htc
                obtain ⟨rfl, hcap2⟩ : ta = some ⟨tb, to, none⟩ ∧ tc = tcap := by
                  have e' := et
                  simp only [Value.slice.injEq] at e'
                  exact ⟨e'.1, e'.2.2⟩
                have htc1 := htc j hjq
                rw [List.getD_eq_getElem?_getD, List.getElem?_map, hx] at htc1
                simp only [Option.map_some, Option.getD_some] at htc1
                have HTC : Hid (∀ W, Below W3.heap.size W3 W → W.cell? ⟨tb, to + j, none⟩ = some (.string (ba (writeS x)))) := Lib.hid fun W hW => (hW.cell (p := ⟨tb, to + j, none⟩) (block_lt_of_cell htc1)).trans htc1
                have hread : readS (bl (ba (writeS x))) = (x, 0) := by rw [bl_ba]; exact read_write x (HNM.out x hxm) (HG.out.fits x hxm)
                have hrd := fun W => read_any (ba (writeS x)) W (by have := write_len (HLT.out x hxm); simpa [ba, ByteArray.size] using this)
                rw [hread] at hrd
                have HREAD := Lib.hid hrd
                have HX := Lib.hid (And.intro hx hxm)
                clear hat hget et hcap2 htc htc1 hread hrd hx hxm hxt
                go_wp2_with fail
                refine HGET.out.mono ?_
                rintro e W5 ⟨rfl, hb5⟩
                have HB5 := Lib.hid (HBQ3.out.trans (hb5.mono HBQ3.out.size))
                have HB5a := Lib.hid (HB5.out.alloc HB5.out.size (boxC chgT x))
                clear hb5 c0 c1 c2 ha4
                have htc5 := HTC.out _ HB5a.out
                simp only [Option.isSome_some]
                go_wp2_with fail
                refine (HREAD.out _).mono ?_
                rintro e W6 ⟨rfl, hb6⟩
                have hx5 := box_at (w := W5) (t := chgT) (e := x) hb6
                have h56 : W5.heap.size < W6.heap.size := block_lt_of_cell (three hx5).1
                have HX5 := Lib.hid (three (range_below hx5 h56 ((Below.refl _ _).alloc (Nat.le_refl _) (boxC chgT x))))
                have HB6 := Lib.hid ((HB5a.out.trans (hb6.mono HB5a.out.size)).alloc (Nat.le_trans HB5a.out.size hb6.size) (boxC chgT x))
                have HB62 : Hid (Below W2.heap.size W2 (W6.alloc (boxC chgT x))) := Lib.hid (HB3.out.trans (HB6.out.mono HB3.out.size))
                clear hb6 htc5 hx5
                obtain ⟨y0, y1, y2⟩ := HX5.out
                simp only [Nat.zero_add] at y0 y1 y2
                obtain ⟨c0, c1, c2⟩ := HUC.out _ HB62.out j x hjl HX.out.1
                have ha6 := HCA.out _ HB62.out
                by_cases hj0 : j = 0
                · subst hj0
                  simp only [Nat.zero_mul, Nat.add_zero] at c0 c1 c2
                  go_wp2_with fail
                  refine wp_region_quiet_lit (by kernel_rfl) (by kernel_rfl) ?_
                  repeat (first
                    | (go_big_quiet_want
                       first
                         | refine quiet_neq_chg (.tmp 100) (.tmp 104) x rfl rfl rfl ?_
                         | refine quiet_neq_chg (.tmp 108) (.tmp 112) x rfl rfl rfl ?_
                       go_simp
                       go_big_quiet_on)
                    | (go_big_quiet_step (fail)))
                  refine wpQuiet_nil ?_
                  rintro _ ⟨nq, rfl⟩
                  go_wp2_with fail
                  go_roundw
                  case rel => exact ⟨1, by omega, by simp, below_drewN HB6.out nq⟩
                  case measure => simp [intOf]; omega
                · obtain ⟨i0, rfl⟩ : ∃ i0, j = i0 + 1 := ⟨j - 1, by omega⟩
                  obtain ⟨y, hy⟩ : ∃ y, Q[i0]? = some y := ⟨Q[i0], List.getElem?_eq_getElem (by omega)⟩
                  obtain ⟨d0, _, _⟩ := HUC.out _ HB62.out i0 y (by omega) hy
                  have hless : Op.bytesLess y.key.toList x.key.toList = true := by
                    rw [less_toList]
                    have h1 := (List.getElem?_eq_some_iff.1 hy)
                    have h2 := (List.getElem?_eq_some_iff.1 HX.out.1)
                    obtain ⟨h1a, h1b⟩ := h1
                    obtain ⟨h2a, h2b⟩ := h2
                    rw [← h1b, ← h2b]
                    exact List.pairwise_iff_getElem.1 HG.out.rise i0 (i0 + 1) h1a h2a (by omega)
                  clear hy
                  go_wp2_with fail
                  refine wp_region_quiet_lit (by kernel_rfl) (by kernel_rfl) ?_
                  repeat (first
                    | (go_big_quiet_want
                       first
                         | refine quiet_neq_chg (.tmp 100) (.tmp 104) x rfl rfl rfl ?_
                         | refine quiet_neq_chg (.tmp 108) (.tmp 112) x rfl rfl rfl ?_
                       go_simp
                       go_big_quiet_on)
                    | (go_big_quiet_step (fail)))
                  refine wpQuiet_nil ?_
                  rintro _ ⟨nq, rfl⟩
                  go_wp2_with fail
                  go_roundw
                  case rel => exact ⟨i0 + 1 + 1, by omega, by simp, below_drewN HB6.out nq⟩
                  case measure => simp [intOf]; omega
              · have hKq := (HBQ.out.block D (Array.getElem?_eq_some_iff.1 HAF.out.kept).1).trans HAF.out.kept
                have HKQ := Lib.hid (And.intro hKq ((HAF.out.below.trans (HBQ.out.mono HAF.out.below.size)).trans (belowK_b (w := w) (Nat.le_refl _) wr D _ (.deferred none) HAF.out.far hKq rfl rfl)))
                clear hKq
                go_wp2_with fail
                refine ⟨by simp, .inl ⟨_, _, rfl, run_takeDeferred HKQ.out.1, ?_⟩⟩
                exact ⟨_, results_tmp rfl _ _ _, rfl, HKQ.out.2⟩
          by_cases hs2 : (Q.length : Int) < s
          · subst hm0
            go_wp2_with fail
            go_quiet ((go_at_call 19; exact Calls.quiet_of_same (HLENQ.out _)))
            go_wp2_with fail
            refine (HLENQ.out nq).mono ?_
            rintro e W1 ⟨rfl, rfl⟩
            go_wp2_with fail
            obtain ⟨W2, hW2, HAF⟩ : ∃ W2, (W.drewN nq).setCell ⟨w.heap.size, 0, none⟩ (.int .i64 Q.length) = W2 ∧ Hid (Aft w wr wA d2 Q D Q.length (.slice ua Q.length uc) W2) := ⟨_, rfl, Lib.hid (HSET.out nq)⟩
            rw [hW2]
            clear hW2 HSET HDRW HLENQ hsc hsf
            have HRD := Lib.hid (HAF.out.reads hm1)
            go_wp2_with fail
            have htx := texts_walk HAF.out.mem (by omega) HFN.out (HTT.out.below (HAF.out.below.mono (Nat.le_refl _)))
            rw [hpb] at htx
            have HTX := Lib.hid htx
            clear htx
            refine HTX.out.mono ?_
            rintro e W3 ⟨vt, rfl, hO3, hb3⟩
            obtain ⟨ta, tc, rfl⟩ := owns_slice hO3
            have HTR := Lib.hid (texts_reads hO3)
            have HB3 := Lib.hid hb3
            have hlen := len_any (HAF.out.mem.below hb3)
            rw [hpb] at hlen
            have HLN3 := Lib.hid hlen
            have hn3 := (show Boxed W3 w.heap.size 3 (.int .i64 Q.length) from (hb3.block _ HAF.out.num.lt).trans HAF.out.num).cell
            have ha3 := (show Boxed W3 wr.heap.size chsT (.slice ua Q.length uc) from (hb3.block _ HAF.out.all.lt).trans HAF.out.all).cell
            clear hlen hO3 hb3
            go_wp2_with fail
            refine HLN3.out.mono ?_
            rintro e W4 ⟨rfl, rfl⟩
            go_wp2_with fail
            clear hn3 ha3
            have HCA : Hid (∀ W, Below W2.heap.size W2 W → W.cell? ⟨wr.heap.size, 0, none⟩ = some (.slice ua Q.length uc)) := Lib.hid fun W hW => (show Boxed W wr.heap.size chsT (.slice ua Q.length uc) from (hW.block _ HAF.out.all.lt).trans HAF.out.all).cell
            go_loopw [10] (fun i wq => ∃ j : Nat, j ≤ Q.length ∧ i = .int .i64 j ∧ Below W3.heap.size W3 wq) (fun i _ => Q.length - (intOf i).toNat)
            case atStart => exact ⟨0, Nat.zero_le _, rfl, Below.refl _ _⟩
            case round =>
              obtain ⟨j, hj, rfl, hbq⟩ := hrel
              have HBQ : Hid (Below W2.heap.size W2 wr) := Lib.hid (HB3.out.trans (hbq.mono HB3.out.size))
              have HBQ3 := Lib.hid hbq
              have ha4 := HCA.out wr HBQ.out
              clear hbq
              by_cases hjl : j < Q.length
              · have hjq : j < Q.length := by omega
                obtain ⟨x, hx⟩ : ∃ x, Q[j]? = some x := ⟨Q[j], List.getElem?_eq_getElem hjq⟩
                have hxm : x ∈ Q := List.mem_of_getElem? hx
                have hxt : (Q.take Q.length)[j]? = some x := by rw [List.getElem?_take_of_lt hjl]; exact hx
                rcases HRD.out with ⟨_, _, e, h0⟩ | ⟨h0, ub, uo, ucap, e, h3, h4⟩
                · exfalso
                  rw [h0] at hxt
                  simp at hxt
                obtain ⟨rfl, hcap⟩ : ua = some ⟨ub, uo, none⟩ ∧ uc = ucap := by
                  have e' := e
                  simp only [Value.slice.injEq] at e'
                  exact ⟨e'.1, e'.2.2⟩
                clear e hcap
                have HUC : Hid (∀ W, Below W2.heap.size W2 W → ∀ (i : Nat) (z : Chg), i < Q.length → Q[i]? = some z → W.cell? ⟨ub, uo + i * 3, none⟩ = some (.string z.key) ∧ W.cell? ⟨ub, uo + i * 3 + 1, none⟩ = some (.string z.val) ∧ W.cell? ⟨ub, uo + i * 3 + 2, none⟩ = some (.bool z.gone)) := Lib.hid fun W hW i z hi hz =>
                  three (range_below (h4 i z (by rw [List.getElem?_take_of_lt hi]; exact hz)) h3 hW)
                clear h3 h4 h0
                obtain ⟨c0, c1, c2⟩ := HUC.out wr HBQ.out j x hjl hx
                have hat : at? Chg.key x.key Q = some x := at_mem Chg.key HG.out.rise x hxm
                have hget := get_any (HAF.out.mem.below HBQ.out) HG.out.rise (by omega) x.key
                rw [hpb, hat, show tells x.key Q = x by unfold tells; rw [hat]] at hget
                have HGET := Lib.hid hget
                obtain ⟨tb, to, tcap, et, _, htc⟩ := reads_at HTR.out (by rw [List.length_map]; omega)
                simp only [List.length_map] at et htc
                obtain ⟨rfl, hcap2⟩ : ta = some ⟨tb, to, none⟩ ∧ tc = tcap := by
                  have e' := et
                  simp only [Value.slice.injEq] at e'
                  exact ⟨e'.1, e'.2.2⟩
                have htc1 := htc j hjq
                rw [List.getD_eq_getElem?_getD, List.getElem?_map, hx] at htc1
                simp only [Option.map_some, Option.getD_some] at htc1
                have HTC : Hid (∀ W, Below W3.heap.size W3 W → W.cell? ⟨tb, to + j, none⟩ = some (.string (ba (writeS x)))) := Lib.hid fun W hW => (hW.cell (p := ⟨tb, to + j, none⟩) (block_lt_of_cell htc1)).trans htc1
                have hread : readS (bl (ba (writeS x))) = (x, 0) := by rw [bl_ba]; exact read_write x (HNM.out x hxm) (HG.out.fits x hxm)
                have hrd := fun W => read_any (ba (writeS x)) W (by have := write_len (HLT.out x hxm); simpa [ba, ByteArray.size] using this)
                rw [hread] at hrd
                have HREAD := Lib.hid hrd
                have HX := Lib.hid (And.intro hx hxm)
                clear hat hget et hcap2 htc htc1 hread hrd hx hxm hxt
                go_wp2_with fail
                refine HGET.out.mono ?_
                rintro e W5 ⟨rfl, hb5⟩
                have HB5 := Lib.hid (HBQ3.out.trans (hb5.mono HBQ3.out.size))
                have HB5a := Lib.hid (HB5.out.alloc HB5.out.size (boxC chgT x))
                clear hb5 c0 c1 c2 ha4
                have htc5 := HTC.out _ HB5a.out
                simp only [Option.isSome_some]
                go_wp2_with fail
                refine (HREAD.out _).mono ?_
                rintro e W6 ⟨rfl, hb6⟩
                have hx5 := box_at (w := W5) (t := chgT) (e := x) hb6
                have h56 : W5.heap.size < W6.heap.size := block_lt_of_cell (three hx5).1
                have HX5 := Lib.hid (three (range_below hx5 h56 ((Below.refl _ _).alloc (Nat.le_refl _) (boxC chgT x))))
                have HB6 := Lib.hid ((HB5a.out.trans (hb6.mono HB5a.out.size)).alloc (Nat.le_trans HB5a.out.size hb6.size) (boxC chgT x))
                have HB62 : Hid (Below W2.heap.size W2 (W6.alloc (boxC chgT x))) := Lib.hid (HB3.out.trans (HB6.out.mono HB3.out.size))
                clear hb6 htc5 hx5
                obtain ⟨y0, y1, y2⟩ := HX5.out
                simp only [Nat.zero_add] at y0 y1 y2
                obtain ⟨c0, c1, c2⟩ := HUC.out _ HB62.out j x hjl HX.out.1
                have ha6 := HCA.out _ HB62.out
                by_cases hj0 : j = 0
                · subst hj0
                  simp only [Nat.zero_mul, Nat.add_zero] at c0 c1 c2
                  go_wp2_with fail
                  refine wp_region_quiet_lit (by kernel_rfl) (by kernel_rfl) ?_
                  repeat (first
                    | (go_big_quiet_want
                       first
                         | refine quiet_neq_chg (.tmp 100) (.tmp 104) x rfl rfl rfl ?_
                         | refine quiet_neq_chg (.tmp 108) (.tmp 112) x rfl rfl rfl ?_
                       go_simp
                       go_big_quiet_on)
                    | (go_big_quiet_step (fail)))
                  refine wpQuiet_nil ?_
                  rintro _ ⟨nq, rfl⟩
                  go_wp2_with fail
                  go_roundw
                  case rel => exact ⟨1, by omega, by simp, below_drewN HB6.out nq⟩
                  case measure => simp [intOf]; omega
                · obtain ⟨i0, rfl⟩ : ∃ i0, j = i0 + 1 := ⟨j - 1, by omega⟩
                  obtain ⟨y, hy⟩ : ∃ y, Q[i0]? = some y := ⟨Q[i0], List.getElem?_eq_getElem (by omega)⟩
                  obtain ⟨d0, _, _⟩ := HUC.out _ HB62.out i0 y (by omega) hy
                  have hless : Op.bytesLess y.key.toList x.key.toList = true := by
                    rw [less_toList]
                    have h1 := (List.getElem?_eq_some_iff.1 hy)
                    have h2 := (List.getElem?_eq_some_iff.1 HX.out.1)
                    obtain ⟨h1a, h1b⟩ := h1
                    obtain ⟨h2a, h2b⟩ := h2
                    rw [← h1b, ← h2b]
                    exact List.pairwise_iff_getElem.1 HG.out.rise i0 (i0 + 1) h1a h2a (by omega)
                  clear hy
                  go_wp2_with fail
                  refine wp_region_quiet_lit (by kernel_rfl) (by kernel_rfl) ?_
                  repeat (first
                    | (go_big_quiet_want
                       first
                         | refine quiet_neq_chg (.tmp 100) (.tmp 104) x rfl rfl rfl ?_
                         | refine quiet_neq_chg (.tmp 108) (.tmp 112) x rfl rfl rfl ?_
                       go_simp
                       go_big_quiet_on)
                    | (go_big_quiet_step (fail)))
                  refine wpQuiet_nil ?_
                  rintro _ ⟨nq, rfl⟩
                  go_wp2_with fail
                  go_roundw
                  case rel => exact ⟨i0 + 1 + 1, by omega, by simp, below_drewN HB6.out nq⟩
                  case measure => simp [intOf]; omega
              · have hKq := (HBQ.out.block D (Array.getElem?_eq_some_iff.1 HAF.out.kept).1).trans HAF.out.kept
                have HKQ := Lib.hid (And.intro hKq ((HAF.out.below.trans (HBQ.out.mono HAF.out.below.size)).trans (belowK_b (w := w) (Nat.le_refl _) wr D _ (.deferred none) HAF.out.far hKq rfl rfl)))
                clear hKq
                go_wp2_with fail
                refine ⟨by simp, .inl ⟨_, _, rfl, run_takeDeferred HKQ.out.1, ?_⟩⟩
                exact ⟨_, results_tmp rfl _ _ _, rfl, HKQ.out.2⟩
          · have hs3 : s = m := by
              by_cases hx : s.toNat < Q.length
              · exact absurd (by omega) (hne s.toNat hx)
              · omega
            go_wp2_with fail
            go_quiet ((go_at_call 19; exact Calls.quiet_of_same (HLENQ.out _)))
            obtain ⟨W2, hW2, HAF⟩ : ∃ W2, W.drewN nq = W2 ∧ Hid (Aft w wr wA d2 Q D m (.slice ua m uc) W2) := ⟨_, rfl, Lib.hid (HDRW.out nq hs3)⟩
            rw [hW2]
            clear hW2 HSET HDRW HLENQ hsc hsf hm0 hne hs3
            have HRD := Lib.hid (HAF.out.reads hm1)
            go_wp2_with fail
            have htx := texts_walk HAF.out.mem (by omega) HFN.out (HTT.out.below (HAF.out.below.mono (Nat.le_refl _)))
            rw [hpb] at htx
            have HTX := Lib.hid htx
            clear htx
            refine HTX.out.mono ?_
            rintro e W3 ⟨vt, rfl, hO3, hb3⟩
            obtain ⟨ta, tc, rfl⟩ := owns_slice hO3
            have HTR := Lib.hid (texts_reads hO3)
            have HB3 := Lib.hid hb3
            have hlen := len_any (HAF.out.mem.below hb3)
            rw [hpb] at hlen
            have HLN3 := Lib.hid hlen
            have hn3 := (show Boxed W3 w.heap.size 3 (.int .i64 m) from (hb3.block _ HAF.out.num.lt).trans HAF.out.num).cell
            have ha3 := (show Boxed W3 wr.heap.size chsT (.slice ua m uc) from (hb3.block _ HAF.out.all.lt).trans HAF.out.all).cell
            clear hlen hO3 hb3
            go_wp2_with fail
            refine HLN3.out.mono ?_
            rintro e W4 ⟨rfl, rfl⟩
            go_wp2_with fail
            clear hn3 ha3
            have HCA : Hid (∀ W, Below W2.heap.size W2 W → W.cell? ⟨wr.heap.size, 0, none⟩ = some (.slice ua m uc)) := Lib.hid fun W hW => (show Boxed W wr.heap.size chsT (.slice ua m uc) from (hW.block _ HAF.out.all.lt).trans HAF.out.all).cell
            go_loopw [10] (fun i wq => ∃ j : Nat, j ≤ m ∧ i = .int .i64 j ∧ Below W3.heap.size W3 wq) (fun i _ => m - (intOf i).toNat)
            case atStart => exact ⟨0, Nat.zero_le _, rfl, Below.refl _ _⟩
            case round =>
              obtain ⟨j, hj, rfl, hbq⟩ := hrel
              have HBQ : Hid (Below W2.heap.size W2 wr) := Lib.hid (HB3.out.trans (hbq.mono HB3.out.size))
              have HBQ3 := Lib.hid hbq
              have ha4 := HCA.out wr HBQ.out
              clear hbq
              by_cases hjl : j < m
              · have hjq : j < Q.length := by omega
                obtain ⟨x, hx⟩ : ∃ x, Q[j]? = some x := ⟨Q[j], List.getElem?_eq_getElem hjq⟩
                have hxm : x ∈ Q := List.mem_of_getElem? hx
                have hxt : (Q.take m)[j]? = some x := by rw [List.getElem?_take_of_lt hjl]; exact hx
                rcases HRD.out with ⟨_, _, e, h0⟩ | ⟨h0, ub, uo, ucap, e, h3, h4⟩
                · exfalso
                  rw [h0] at hxt
                  simp at hxt
                obtain ⟨rfl, hcap⟩ : ua = some ⟨ub, uo, none⟩ ∧ uc = ucap := by
                  have e' := e
                  simp only [Value.slice.injEq] at e'
                  exact ⟨e'.1, e'.2.2⟩
                clear e hcap
                have HUC : Hid (∀ W, Below W2.heap.size W2 W → ∀ (i : Nat) (z : Chg), i < m → Q[i]? = some z → W.cell? ⟨ub, uo + i * 3, none⟩ = some (.string z.key) ∧ W.cell? ⟨ub, uo + i * 3 + 1, none⟩ = some (.string z.val) ∧ W.cell? ⟨ub, uo + i * 3 + 2, none⟩ = some (.bool z.gone)) := Lib.hid fun W hW i z hi hz =>
                  three (range_below (h4 i z (by rw [List.getElem?_take_of_lt hi]; exact hz)) h3 hW)
                clear h3 h4 h0
                obtain ⟨c0, c1, c2⟩ := HUC.out wr HBQ.out j x hjl hx
                have hat : at? Chg.key x.key Q = some x := at_mem Chg.key HG.out.rise x hxm
                have hget := get_any (HAF.out.mem.below HBQ.out) HG.out.rise (by omega) x.key
                rw [hpb, hat, show tells x.key Q = x by unfold tells; rw [hat]] at hget
                have HGET := Lib.hid hget
                obtain ⟨tb, to, tcap, et, _, htc⟩ := reads_at HTR.out (by rw [List.length_map]; omega)
                simp only [List.length_map] at et htc
                obtain ⟨rfl, hcap2⟩ : ta = some ⟨tb, to, none⟩ ∧ tc = tcap := by
                  have e' := et
                  simp only [Value.slice.injEq] at e'
                  exact ⟨e'.1, e'.2.2⟩
                have htc1 := htc j hjq
                rw [List.getD_eq_getElem?_getD, List.getElem?_map, hx] at htc1
                simp only [Option.map_some, Option.getD_some] at htc1
                have HTC : Hid (∀ W, Below W3.heap.size W3 W → W.cell? ⟨tb, to + j, none⟩ = some (.string (ba (writeS x)))) := Lib.hid fun W hW => (hW.cell (p := ⟨tb, to + j, none⟩) (block_lt_of_cell htc1)).trans htc1
                have hread : readS (bl (ba (writeS x))) = (x, 0) := by rw [bl_ba]; exact read_write x (HNM.out x hxm) (HG.out.fits x hxm)
                have hrd := fun W => read_any (ba (writeS x)) W (by have := write_len (HLT.out x hxm); simpa [ba, ByteArray.size] using this)
                rw [hread] at hrd
                have HREAD := Lib.hid hrd
                have HX := Lib.hid (And.intro hx hxm)
                clear hat hget et hcap2 htc htc1 hread hrd hx hxm hxt
                go_wp2_with fail
                refine HGET.out.mono ?_
                rintro e W5 ⟨rfl, hb5⟩
                have HB5 := Lib.hid (HBQ3.out.trans (hb5.mono HBQ3.out.size))
                have HB5a := Lib.hid (HB5.out.alloc HB5.out.size (boxC chgT x))
                clear hb5 c0 c1 c2 ha4
                have htc5 := HTC.out _ HB5a.out
                simp only [Option.isSome_some]
                go_wp2_with fail
                refine (HREAD.out _).mono ?_
                rintro e W6 ⟨rfl, hb6⟩
                have hx5 := box_at (w := W5) (t := chgT) (e := x) hb6
                have h56 : W5.heap.size < W6.heap.size := block_lt_of_cell (three hx5).1
                have HX5 := Lib.hid (three (range_below hx5 h56 ((Below.refl _ _).alloc (Nat.le_refl _) (boxC chgT x))))
                have HB6 := Lib.hid ((HB5a.out.trans (hb6.mono HB5a.out.size)).alloc (Nat.le_trans HB5a.out.size hb6.size) (boxC chgT x))
                have HB62 : Hid (Below W2.heap.size W2 (W6.alloc (boxC chgT x))) := Lib.hid (HB3.out.trans (HB6.out.mono HB3.out.size))
                clear hb6 htc5 hx5
                obtain ⟨y0, y1, y2⟩ := HX5.out
                simp only [Nat.zero_add] at y0 y1 y2
                obtain ⟨c0, c1, c2⟩ := HUC.out _ HB62.out j x hjl HX.out.1
                have ha6 := HCA.out _ HB62.out
                by_cases hj0 : j = 0
                · subst hj0
                  simp only [Nat.zero_mul, Nat.add_zero] at c0 c1 c2
                  go_wp2_with fail
                  refine wp_region_quiet_lit (by kernel_rfl) (by kernel_rfl) ?_
                  repeat (first
                    | (go_big_quiet_want
                       first
                         | refine quiet_neq_chg (.tmp 100) (.tmp 104) x rfl rfl rfl ?_
                         | refine quiet_neq_chg (.tmp 108) (.tmp 112) x rfl rfl rfl ?_
                       go_simp
                       go_big_quiet_on)
                    | (go_big_quiet_step (fail)))
                  refine wpQuiet_nil ?_
                  rintro _ ⟨nq, rfl⟩
                  go_wp2_with fail
                  go_roundw
                  case rel => exact ⟨1, by omega, by simp, below_drewN HB6.out nq⟩
                  case measure => simp [intOf]; omega
                · obtain ⟨i0, rfl⟩ : ∃ i0, j = i0 + 1 := ⟨j - 1, by omega⟩
                  obtain ⟨y, hy⟩ : ∃ y, Q[i0]? = some y := ⟨Q[i0], List.getElem?_eq_getElem (by omega)⟩
                  obtain ⟨d0, _, _⟩ := HUC.out _ HB62.out i0 y (by omega) hy
                  have hless : Op.bytesLess y.key.toList x.key.toList = true := by
                    rw [less_toList]
                    have h1 := (List.getElem?_eq_some_iff.1 hy)
                    have h2 := (List.getElem?_eq_some_iff.1 HX.out.1)
                    obtain ⟨h1a, h1b⟩ := h1
                    obtain ⟨h2a, h2b⟩ := h2
                    rw [← h1b, ← h2b]
                    exact List.pairwise_iff_getElem.1 HG.out.rise i0 (i0 + 1) h1a h2a (by omega)
                  clear hy
                  go_wp2_with fail
                  refine wp_region_quiet_lit (by kernel_rfl) (by kernel_rfl) ?_
                  repeat (first
                    | (go_big_quiet_want
                       first
                         | refine quiet_neq_chg (.tmp 100) (.tmp 104) x rfl rfl rfl ?_
                         | refine quiet_neq_chg (.tmp 108) (.tmp 112) x rfl rfl rfl ?_
                       go_simp
                       go_big_quiet_on)
                    | (go_big_quiet_step (fail)))
                  refine wpQuiet_nil ?_
                  rintro _ ⟨nq, rfl⟩
                  go_wp2_with fail
                  go_roundw
                  case rel => exact ⟨i0 + 1 + 1, by omega, by simp, below_drewN HB6.out nq⟩
                  case measure => simp [intOf]; omega
              · have hKq := (HBQ.out.block D (Array.getElem?_eq_some_iff.1 HAF.out.kept).1).trans HAF.out.kept
                have HKQ := Lib.hid (And.intro hKq ((HAF.out.below.trans (HBQ.out.mono HAF.out.below.size)).trans (belowK_b (w := w) (Nat.le_refl _) wr D _ (.deferred none) HAF.out.far hKq rfl rfl)))
                clear hKq
                go_wp2_with fail
                refine ⟨by simp, .inl ⟨_, _, rfl, run_takeDeferred HKQ.out.1, ?_⟩⟩
                exact ⟨_, results_tmp rfl _ _ _, rfl, HKQ.out.2⟩
        case stop =>
          rintro D c pre' W hD hpre ⟨rfl, pre, x, rfl, ⟨u, hu, ho, h1, hBW⟩, he⟩ hK
          refine wpIn_wide.2 ?_
          obtain ⟨m, hm0⟩ : ∃ m, m = pre.length := ⟨_, rfl⟩
          have hpq : pre.map (·.1) = Q.take m ∧ m < Q.length := by
            obtain ⟨t, ht⟩ := hpre
            have h2 := congrArg (List.map (·.1)) ht
            rw [List.attach_map_subtype_val, List.map_append, List.map_append] at h2
            refine ⟨?_, ?_⟩
            · have h4 := congrArg (List.take pre.length) h2.symm
              rw [hm0, h4, List.append_assoc, List.take_left' (by simp)]
            · have h5 := congrArg List.length h2
              simp at h5
              omega
          have hm1 : m ≤ Q.length := by omega
          have hO : W.ownsRow wA.heap.size chgT 3 u m ((Q.take m).flatMap chC) := by
            rw [← hpq.1, hm0]
            simpa using ho
          have hmq := hpq.2
          have hs3 : s = m := by rw [hm0]; exact he.symm
          clear ho hpq hpre he hm0 pre x
          obtain ⟨ua, uc, rfl⟩ := owns_slice hO
          have hsb := HXB.out W (HB12.out.trans (hBW.mono HB12.out.size))
          have hsc := hsb.cell
          have hsf := hsb.frozen
          have hMW : Mem W d2 Q := HM2.out.1.below hBW
          have hBWw : Below w.heap.size w W := HBW.out.trans (hBW.mono HBW.out.size)
          have HLENQ : Hid (∀ n, Calls Tryd.prog 19 #[ptr d.pb] (W.drewN n) fun e w' => e = .returned (.int .i64 Q.length) ∧ w' = W.drewN n) := Lib.hid fun n => by
            have := len_any (hMW.below (below_drewN (Below.refl _ _) n))
            rw [hpb] at this
            exact this.mono fun e w' he => ⟨he.1, he.2.symm⟩
          have hdB : w.heap.size < d2.B := Nat.lt_of_lt_of_le (HXB.out w1 (Below.refl _ _)).lt HDB.out
          have HSET := Lib.hid (fun n => aft_set (wA := wA) (m := m) n hsb hu hO hMW hBWw hK hD hwr (by omega) hdB)
          have HDRW := Lib.hid (fun n (hs : s = m) => aft_drew (wA := wA) (m := m) n hs hsb hu hO hMW hBWw hK hD hwr (by omega))
          clear hst hkv hbox hBr hsb hMW hBWw hu hO hBW hK hD hdB
          have hs1 : ¬ s < 0 := by omega
          have hs2 : ¬ (Q.length : Int) < s := by omega
          go_wp2_with fail
          go_quiet ((go_at_call 19; exact Calls.quiet_of_same (HLENQ.out _)))
          obtain ⟨W2, hW2, HAF⟩ : ∃ W2, W.drewN nq = W2 ∧ Hid (Aft w wr wA d2 Q D m (.slice ua m uc) W2) := ⟨_, rfl, Lib.hid (HDRW.out nq hs3)⟩
          rw [hW2]
          clear hW2 HSET HDRW HLENQ hsc hsf hs3
          have HRD := Lib.hid (HAF.out.reads hm1)
          go_wp2_with fail
          have htx := texts_walk HAF.out.mem (by omega) HFN.out (HTT.out.below (HAF.out.below.mono (Nat.le_refl _)))
          rw [hpb] at htx
          have HTX := Lib.hid htx
          clear htx
          refine HTX.out.mono ?_
          rintro e W3 ⟨vt, rfl, hO3, hb3⟩
          obtain ⟨ta, tc, rfl⟩ := owns_slice hO3
          have HTR := Lib.hid (texts_reads hO3)
          have HB3 := Lib.hid hb3
          have hlen := len_any (HAF.out.mem.below hb3)
          rw [hpb] at hlen
          have HLN3 := Lib.hid hlen
          have hn3 := (show Boxed W3 w.heap.size 3 (.int .i64 m) from (hb3.block _ HAF.out.num.lt).trans HAF.out.num).cell
          have ha3 := (show Boxed W3 wr.heap.size chsT (.slice ua m uc) from (hb3.block _ HAF.out.all.lt).trans HAF.out.all).cell
          clear hlen hO3 hb3
          go_wp2_with fail
          refine HLN3.out.mono ?_
          rintro e W4 ⟨rfl, rfl⟩
          go_wp2_with fail
          clear hn3 ha3
          have HCA : Hid (∀ W, Below W2.heap.size W2 W → W.cell? ⟨wr.heap.size, 0, none⟩ = some (.slice ua m uc)) := Lib.hid fun W hW => (show Boxed W wr.heap.size chsT (.slice ua m uc) from (hW.block _ HAF.out.all.lt).trans HAF.out.all).cell
          go_loopw [10] (fun i wq => ∃ j : Nat, j ≤ m ∧ i = .int .i64 j ∧ Below W3.heap.size W3 wq) (fun i _ => m - (intOf i).toNat)
          case atStart => exact ⟨0, Nat.zero_le _, rfl, Below.refl _ _⟩
          case round =>
            obtain ⟨j, hj, rfl, hbq⟩ := hrel
            have HBQ : Hid (Below W2.heap.size W2 wr) := Lib.hid (HB3.out.trans (hbq.mono HB3.out.size))
            have HBQ3 := Lib.hid hbq
            have ha4 := HCA.out wr HBQ.out
            clear hbq
            by_cases hjl : j < m
            · have hjq : j < Q.length := by omega
              obtain ⟨x, hx⟩ : ∃ x, Q[j]? = some x := ⟨Q[j], List.getElem?_eq_getElem hjq⟩
              have hxm : x ∈ Q := List.mem_of_getElem? hx
              have hxt : (Q.take m)[j]? = some x := by rw [List.getElem?_take_of_lt hjl]; exact hx
              rcases HRD.out with ⟨_, _, e, h0⟩ | ⟨h0, ub, uo, ucap, e, h3, h4⟩
              · exfalso
                rw [h0] at hxt
                simp at hxt
              obtain ⟨rfl, hcap⟩ : ua = some ⟨ub, uo, none⟩ ∧ uc = ucap := by
                have e' := e
                simp only [Value.slice.injEq] at e'
                exact ⟨e'.1, e'.2.2⟩
              clear e hcap
              have HUC : Hid (∀ W, Below W2.heap.size W2 W → ∀ (i : Nat) (z : Chg), i < m → Q[i]? = some z → W.cell? ⟨ub, uo + i * 3, none⟩ = some (.string z.key) ∧ W.cell? ⟨ub, uo + i * 3 + 1, none⟩ = some (.string z.val) ∧ W.cell? ⟨ub, uo + i * 3 + 2, none⟩ = some (.bool z.gone)) := Lib.hid fun W hW i z hi hz =>
                three (range_below (h4 i z (by rw [List.getElem?_take_of_lt hi]; exact hz)) h3 hW)
              clear h3 h4 h0
              obtain ⟨c0, c1, c2⟩ := HUC.out wr HBQ.out j x hjl hx
              have hat : at? Chg.key x.key Q = some x := at_mem Chg.key HG.out.rise x hxm
              have hget := get_any (HAF.out.mem.below HBQ.out) HG.out.rise (by omega) x.key
              rw [hpb, hat, show tells x.key Q = x by unfold tells; rw [hat]] at hget
              have HGET := Lib.hid hget
              obtain ⟨tb, to, tcap, et, _, htc⟩ := reads_at HTR.out (by rw [List.length_map]; omega)
              simp only [List.length_map] at et htc
              obtain ⟨rfl, hcap2⟩ : ta = some ⟨tb, to, none⟩ ∧ tc = tcap := by
                have e' := et
                simp only [Value.slice.injEq] at e'
                exact ⟨e'.1, e'.2.2⟩
              have htc1 := htc j hjq
              rw [List.getD_eq_getElem?_getD, List.getElem?_map, hx] at htc1
              simp only [Option.map_some, Option.getD_some] at htc1
              have HTC : Hid (∀ W, Below W3.heap.size W3 W → W.cell? ⟨tb, to + j, none⟩ = some (.string (ba (writeS x)))) := Lib.hid fun W hW => (hW.cell (p := ⟨tb, to + j, none⟩) (block_lt_of_cell htc1)).trans htc1
              have hread : readS (bl (ba (writeS x))) = (x, 0) := by rw [bl_ba]; exact read_write x (HNM.out x hxm) (HG.out.fits x hxm)
              have hrd := fun W => read_any (ba (writeS x)) W (by have := write_len (HLT.out x hxm); simpa [ba, ByteArray.size] using this)
              rw [hread] at hrd
              have HREAD := Lib.hid hrd
              have HX := Lib.hid (And.intro hx hxm)
              clear hat hget et hcap2 htc htc1 hread hrd hx hxm hxt
              go_wp2_with fail
              refine HGET.out.mono ?_
              rintro e W5 ⟨rfl, hb5⟩
              have HB5 := Lib.hid (HBQ3.out.trans (hb5.mono HBQ3.out.size))
              have HB5a := Lib.hid (HB5.out.alloc HB5.out.size (boxC chgT x))
              clear hb5 c0 c1 c2 ha4
              have htc5 := HTC.out _ HB5a.out
              simp only [Option.isSome_some]
              go_wp2_with fail
              refine (HREAD.out _).mono ?_
              rintro e W6 ⟨rfl, hb6⟩
              have hx5 := box_at (w := W5) (t := chgT) (e := x) hb6
              have h56 : W5.heap.size < W6.heap.size := block_lt_of_cell (three hx5).1
              have HX5 := Lib.hid (three (range_below hx5 h56 ((Below.refl _ _).alloc (Nat.le_refl _) (boxC chgT x))))
              have HB6 := Lib.hid ((HB5a.out.trans (hb6.mono HB5a.out.size)).alloc (Nat.le_trans HB5a.out.size hb6.size) (boxC chgT x))
              have HB62 : Hid (Below W2.heap.size W2 (W6.alloc (boxC chgT x))) := Lib.hid (HB3.out.trans (HB6.out.mono HB3.out.size))
              clear hb6 htc5 hx5
              obtain ⟨y0, y1, y2⟩ := HX5.out
              simp only [Nat.zero_add] at y0 y1 y2
              obtain ⟨c0, c1, c2⟩ := HUC.out _ HB62.out j x hjl HX.out.1
              have ha6 := HCA.out _ HB62.out
              by_cases hj0 : j = 0
              · subst hj0
                simp only [Nat.zero_mul, Nat.add_zero] at c0 c1 c2
                go_wp2_with fail
                refine wp_region_quiet_lit (by kernel_rfl) (by kernel_rfl) ?_
                repeat (first
                  | (go_big_quiet_want
                     first
                       | refine quiet_neq_chg (.tmp 100) (.tmp 104) x rfl rfl rfl ?_
                       | refine quiet_neq_chg (.tmp 108) (.tmp 112) x rfl rfl rfl ?_
                     go_simp
                     go_big_quiet_on)
                  | (go_big_quiet_step (fail)))
                refine wpQuiet_nil ?_
                rintro _ ⟨nq, rfl⟩
                go_wp2_with fail
                go_roundw
                case rel => exact ⟨1, by omega, by simp, below_drewN HB6.out nq⟩
                case measure => simp [intOf]; omega
              · obtain ⟨i0, rfl⟩ : ∃ i0, j = i0 + 1 := ⟨j - 1, by omega⟩
                obtain ⟨y, hy⟩ : ∃ y, Q[i0]? = some y := ⟨Q[i0], List.getElem?_eq_getElem (by omega)⟩
                obtain ⟨d0, _, _⟩ := HUC.out _ HB62.out i0 y (by omega) hy
                have hless : Op.bytesLess y.key.toList x.key.toList = true := by
                  rw [less_toList]
                  have h1 := (List.getElem?_eq_some_iff.1 hy)
                  have h2 := (List.getElem?_eq_some_iff.1 HX.out.1)
                  obtain ⟨h1a, h1b⟩ := h1
                  obtain ⟨h2a, h2b⟩ := h2
                  rw [← h1b, ← h2b]
                  exact List.pairwise_iff_getElem.1 HG.out.rise i0 (i0 + 1) h1a h2a (by omega)
                clear hy
                go_wp2_with fail
                refine wp_region_quiet_lit (by kernel_rfl) (by kernel_rfl) ?_
                repeat (first
                  | (go_big_quiet_want
                     first
                       | refine quiet_neq_chg (.tmp 100) (.tmp 104) x rfl rfl rfl ?_
                       | refine quiet_neq_chg (.tmp 108) (.tmp 112) x rfl rfl rfl ?_
                     go_simp
                     go_big_quiet_on)
                  | (go_big_quiet_step (fail)))
                refine wpQuiet_nil ?_
                rintro _ ⟨nq, rfl⟩
                go_wp2_with fail
                go_roundw
                case rel => exact ⟨i0 + 1 + 1, by omega, by simp, below_drewN HB6.out nq⟩
                case measure => simp [intOf]; omega
            · have hKq := (HBQ.out.block D (Array.getElem?_eq_some_iff.1 HAF.out.kept).1).trans HAF.out.kept
              have HKQ := Lib.hid (And.intro hKq ((HAF.out.below.trans (HBQ.out.mono HAF.out.below.size)).trans (belowK_b (w := w) (Nat.le_refl _) wr D _ (.deferred none) HAF.out.far hKq rfl rfl)))
              clear hKq
              go_wp2_with fail
              refine ⟨by simp, .inl ⟨_, _, rfl, run_takeDeferred HKQ.out.1, ?_⟩⟩
              exact ⟨_, results_tmp rfl _ _ _, rfl, HKQ.out.2⟩
end Go.Proofs.YtkbeppmjdjddhaaDoor.Batch
