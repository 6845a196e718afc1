/-
  Walks of the document mbx, the second part.
-/
import Derived.Test.YtegbkfloiiilfaaGreatDoorMgMbxC
import Derived.Test.YtegbkfloiiilfaaGreatDoorMgPlain
import Derived.Test.YtegbkfloiiilfaaGreatDoorMgAddrS
import Derived.Test.YtegbkfloiiilfaaGreatDoorMgLexR
import Derived.Deep.CutRange
import Derived.Outline

/-
  What the document's Read has in memory while a round goes on; its walk.
-/
namespace Go.Proofs.YtegbkfloiiilfaaGreatDoor.Mbx
open Go Go.RowKit
open Go.Proofs.YtegbkfloiiilfaaGreatDoor.Lex

/-- The boxes so far, and what lay there before. -/
structure RfAt (W1 W : World) (o : Value) (B : List Bx) : Prop where
  own : W.ownsRow W1.heap.size rbT 3 o B.length (B.flatMap bxC)
  below : Below W1.heap.size W1 W
section
variable {W1 W W' : World} {o : Value} {B : List Bx} {P X : Nat} {pc xc : Array Value}
theorem RfAt.start (W : World) : RfAt W W (.slice none 0 0) [] := ⟨World.ownsRow_nil _ _ _ _, Below.refl _ _⟩
theorem RfAt.on (h : RfAt W1 W o B) (hb : Below W.heap.size W W') : RfAt W1 W' o B := ⟨owns_below h.own hb, h.below.trans (hb.mono h.below.size)⟩
theorem RfAt.set (h : RfAt W1 W o B) (hP : W1.heap.size ≤ P) (hn : o.ownBlock ≠ some P) (i : Nat) (v : Value) : RfAt W1 (W.setCell ⟨P, i, none⟩ v) o B :=
  ⟨Fr.owns h.own (Fr.one W P i v) (fun k hk e => hn (by rw [← e]; exact hk)), h.below.setCell (p := ⟨P, i, none⟩) hP _⟩
/-- The piece at hand, too. -/
structure LocP (W1 W : World) (o : Value) (B : List Bx) (P : Nat) (pc : Array Value) : Prop where
  at_ : RfAt W1 W o B
  p : Lies W P pc pcT
  pne : o.ownBlock ≠ some P
  lowP : W1.heap.size ≤ P
theorem RfAt.newP (h : RfAt W1 W o B) (pc : Array Value) : LocP W1 (W.alloc (.cells pc pcT)) o B W.heap.size pc :=
  ⟨h.on ((Below.refl _ _).alloc (Nat.le_refl _) _), Lies.new _ _ _, fun e => by have := (h.own.lt _ e).2; omega, h.below.size⟩
theorem LocP.on (h : LocP W1 W o B P pc) (hb : Below W.heap.size W W') : LocP W1 W' o B P pc := ⟨h.at_.on hb, h.p.same (hb.block _ h.p.lt), h.pne, h.lowP⟩
theorem LocP.set (h : LocP W1 W o B P pc) (i : Nat) (v : Value) : LocP W1 (W.setCell ⟨P, i, none⟩ v) o B P (pc.setIfInBounds i v) :=
  ⟨h.at_.set h.lowP h.pne i v, h.p.set i v, h.pne, h.lowP⟩
theorem LocP.set2 {u v : Value} (h : LocP W1 W o B P #[u, v]) (x y : Value) : LocP W1 ((W.setCell ⟨P, 0, none⟩ x).setCell ⟨P, 1, none⟩ y) o B P #[x, y] := (h.set 0 x).set 1 y
theorem LocP.cells {u v : Value} (h : LocP W1 W o B P #[u, v]) : W.cell? ⟨P, 0, none⟩ = some u ∧ W.cell? ⟨P, 1, none⟩ = some v ∧ W.frozen? ⟨P, 0, none⟩ = false ∧ W.frozen? ⟨P, 1, none⟩ = false := ⟨h.p.cell 0, h.p.cell 1, h.p.free 0, h.p.free 1⟩
/-- A box at hand, too. -/
structure Loc (W1 W : World) (o : Value) (B : List Bx) (P X : Nat) (pc : Array Value) (x : Bx) : Prop where
  lp : LocP W1 W o B P pc
  x : Lies W X #[.string x.n, .string x.l, .string x.d] rbT
  xne : o.ownBlock ≠ some X
  lowX : W1.heap.size ≤ X
  px : P ≠ X
variable {y : Bx}
theorem LocP.newX (h : LocP W1 W o B P pc) (y : Bx) : Loc W1 (W.alloc (boxB rbT y)) o B P W.heap.size pc y :=
  ⟨h.on ((Below.refl _ _).alloc (Nat.le_refl _) _), Lies.new _ _ _, fun e => by have := (h.at_.own.lt _ e).2; omega, h.at_.below.size, fun e => by have := h.p.lt; omega⟩
theorem Loc.on (h : Loc W1 W o B P X pc y) (hb : Below W.heap.size W W') : Loc W1 W' o B P X pc y := ⟨h.lp.on hb, h.x.same (hb.block _ h.x.lt), h.xne, h.lowX, h.px⟩
theorem Loc.setP {u v : Value} (h : Loc W1 W o B P X #[u, v] y) (a b : Value) : Loc W1 ((W.setCell ⟨P, 0, none⟩ a).setCell ⟨P, 1, none⟩ b) o B P X #[a, b] y :=
  ⟨h.lp.set2 a b, (h.x.other a (Ne.symm h.px)).other b (Ne.symm h.px), h.xne, h.lowX, h.px⟩
theorem LocP.setO (h : LocP W1 W o B P pc) (hX : W1.heap.size ≤ X) (hn : o.ownBlock ≠ some X) (hPX : P ≠ X) (i : Nat) (v : Value) : LocP W1 (W.setCell ⟨X, i, none⟩ v) o B P pc :=
  ⟨h.at_.set hX hn i v, h.p.other v hPX, h.pne, h.lowP⟩
theorem Loc.setN (h : Loc W1 W o B P X pc y) (nm : ByteArray) : Loc W1 (W.setCell ⟨X, 0, none⟩ (.string nm)) o B P X pc ⟨nm, y.l, y.d⟩ :=
  ⟨h.lp.setO h.lowX h.xne h.px _ _, h.x.set 0 _, h.xne, h.lowX, h.px⟩
theorem Loc.setA (h : Loc W1 W o B P X pc y) (l d : ByteArray) : Loc W1 ((W.setCell ⟨X, 1, none⟩ (.string l)).setCell ⟨X, 2, none⟩ (.string d)) o B P X pc ⟨y.n, l, d⟩ :=
  ⟨(h.lp.setO h.lowX h.xne h.px _ _).setO h.lowX h.xne h.px _ _, (h.x.set 1 _).set 2 _, h.xne, h.lowX, h.px⟩
theorem Loc.cells (h : Loc W1 W o B P X pc y) : W.cell? ⟨X, 0, none⟩ = some (.string y.n) ∧ W.cell? ⟨X, 1, none⟩ = some (.string y.l) ∧ W.cell? ⟨X, 2, none⟩ = some (.string y.d) ∧ W.frozen? ⟨X, 0, none⟩ = false ∧ W.frozen? ⟨X, 1, none⟩ = false ∧ W.frozen? ⟨X, 2, none⟩ = false :=
  ⟨h.x.cell 0, h.x.cell 1, h.x.cell 2, h.x.free 0, h.x.free 1, h.x.free 2⟩
end
/-- The box at hand appended. -/
theorem Loc.app {W1 W : World} {a : Option Addr} {n c : Nat} {B : List Bx} {P X : Nat} {pc : Array Value} {y : Bx} (h : Loc W1 W (.slice a n c) B P X pc y) (hn : B.length = n) (hl : n ≤ 1000) :
    ∃ a' c' w4, (Builtin.append_ #[rbsT, rbsT] rbsT #[.slice a n c, .slice (some ⟨W.heap.size, 0, none⟩) 1 1]).run Tryz.prog (W.alloc (boxB rbT y)) = .ok (.slice a' (n + 1) c') w4 ∧ Hid (LocP W1 w4 (.slice a' (n + 1) c') (B ++ [y]) P pc) := by
  subst hn
  obtain ⟨i0, hi, hz0, hz1, hz2⟩ := info_parts infoRB
  have ho := h.lp.at_.own
  have hz := h.lp.at_.below.size
  obtain ⟨v', w', hr, h2, h3, _, h5⟩ := run_append_own_at (P := Tryz.prog) (W.alloc (boxB rbT y)) W1.heap.size rbsT rbsT rbT i0 _ 3 48 Tryz.underlying84 hi hz0 hz1 hz2 rfl (by decide) (.slice a B.length c) B.length _ (ho.alloc _) ⟨W.heap.size, 0, none⟩ 1 1 (bxC y) rfl (fun j u hu => by rw [addr_add]; exact new_boxB W rbT y j u hu) (one_cell3 y) (by unfold maxLen; omega) (by omega) (by simp; omega)
  obtain ⟨a', c', rfl⟩ := owns_slice h2
  have hPl := h.lp.p.lt
  have hf : Fr (fun k => (Value.slice a B.length c).ownBlock = some k) W w' := ((Fr.refl _ W).alloc _).grown h3 (fun k hk _ => hk)
  refine ⟨a', c', w', hr, Lib.hid ⟨⟨?_, ?_⟩, ?_, ?_, h.lp.lowP⟩⟩
  · rw [List.length_append, flat3_snoc]; exact h2
  · exact h.lp.at_.below.trans (hf.below hz (fun k e => (ho.lt k e).1))
  · exact h.lp.p.same (hf.block _ hPl (fun e => h.lp.pne e))
  · intro e
    rcases h5 with h5 | h5
    · rw [h5] at e
      exact h.lp.pne e
    · rw [h5] at e
      have := Option.some.inj e
      simp at this
      omega
/-- A piece in the list of pieces, in whatever later world. -/
def PcAt (W1 : World) (pb : Nat) (i : Nat) (p : Pc) (a : Option Addr) (c : Nat) : Prop := ∀ W, Below W1.heap.size W1 W → W.cell? ⟨pb, i * 2, none⟩ = some (.slice a p.l.length c) ∧ W.cell? ⟨pb, i * 2 + 1, none⟩ = some (.string p.s) ∧ ReadsT W (.slice a p.l.length c) p.l
theorem pc_at {W1 : World} {v : Value} {ps : List Pc} (h : ReadsC W1 v ps) : ∃ pb cap, v = .slice (some ⟨pb, 0, none⟩) ps.length cap ∧ ps.length ≤ cap ∧ ∀ i p, ps[i]? = some p → ∃ a c, PcAt W1 pb i p a c := by
  obtain ⟨b, cap, rfl, h1, h2, h3⟩ := h
  refine ⟨b, cap, rfl, h1, fun i p hi => ?_⟩
  obtain ⟨a, c, e1, e2, e3⟩ := h3 i p hi
  rw [Nat.zero_add] at e1 e2
  exact ⟨a, c, fun W hW => ⟨old_cell e1 h2 hW, old_cell e2 h2 hW, e3.below hW⟩⟩
/-- What holds ahead of the sign behind a mailbox. -/
structure MtAt (R0 : Nat × List Bx) (ps0 : List Pc) (W1 wx : World) (P : Nat) (o : Value) (n m k : Nat) (g : Bool) (s : ByteArray) (rest : List Pc) (B : List Bx) : Prop where
  res : mtR n m g s rest B = R0
  rst : ps0.drop (k + 1) = rest
  wf : (s = ⟨#[]⟩ ∧ rest = []) ∨ (bl s ≠ [] ∧ Wf rest)
  ln : rest.length ≤ n
  lm : rest.length ≤ m
  few : B.length ≤ 100
  loc : ∃ a l c, LocP W1 wx o B P #[.slice a l c, .string s]
/-- What holds at a round's start. -/
structure StAt (R0 : Nat × List Bx) (ps0 : List Pc) (W1 wx : World) (o : Value) (n m k : Nat) (g : Bool) (B : List Bx) : Prop where
  res : stR n m g (ps0.drop k) B = R0
  wf : Wf (ps0.drop k)
  ln : (ps0.drop k).length ≤ n + 1
  lm : (ps0.drop k).length ≤ m + 1
  few : B.length ≤ 100
  at_ : RfAt W1 wx o B
theorem drop_pc {ps : List Pc} {k : Nat} (h : ps.drop k ≠ []) : ∃ p, ps[k]? = some p ∧ ps.drop k = p :: ps.drop (k + 1) ∧ k < ps.length := by
  have hl : k < ps.length := by
    rcases Nat.lt_or_ge k ps.length with h1 | h1
    · exact h1
    · exact absurd (List.drop_eq_nil_of_le h1) h
  exact ⟨ps[k], List.getElem?_eq_getElem hl, List.drop_eq_getElem_cons hl, hl⟩
theorem sg_str (s : ByteArray) (c : UInt8) : (s.toList == [c]) = sgB s c := by
  rw [Lib.toList_data]
  rfl
end Go.Proofs.YtegbkfloiiilfaaGreatDoor.Mbx

namespace Go.Proofs.YtegbkfloiiilfaaGreatDoor.Mbx
open Go Go.RowKit
open Go.Proofs.YtegbkfloiiilfaaGreatDoor.Lex
open Go.Proofs.YtegbkfloiiilfaaGreatDoor.Addr (Ad noAd ofL adT arT adB boxA cellsA new_boxA twoA AdPost refOf_any KindOk)

theorem kinds_ok {T : List Tk} (h : ∀ t ∈ T, Ok t) : KindOk T := fun t ht => by
  rcases h t ht with h | h | h
  · exact .inl h.1
  · exact .inr (.inl h.1)
  · exact .inr (.inr h.1)
theorem cost_piece {T : List Tk} {p : Pc} (hp : p ∈ cutL T) : cost p.l ≤ cost T := by
  refine Nat.le_trans ?_ (costP_cut T)
  generalize cutL T = ps at *
  induction ps with
  | nil => cases hp
  | cons q r ih =>
    unfold costP at *
    rcases List.mem_cons.1 hp with rfl | hp
    · simp
    · have := ih hp
      simp only [List.map_cons, List.sum_cons]
      omega
set_option maxRecDepth 100000 in
set_option maxHeartbeats 16000000 in
theorem refRead_any (s : ByteArray) (w : World) (hs : s.size ≤ 5000) :
    Calls Tryz.prog 47 #[.string s] w (ReadP (readL (bl s)) w) := by
  have HS := Lib.hid (fun W => refScan_any s W (by omega))
  by_cases h0 : (scan (bl s)).1 = 0
  · obtain ⟨T, hT⟩ : ∃ T, scan (bl s) = (0, T) := ⟨(scan (bl s)).2, by rw [← h0]⟩
    obtain ⟨h1, h2⟩ := scan_ok hT
    rw [bl_len] at h2
    have hrl : readL (bl s) = lst (cutL T).length (cutL T) [] := by
      unfold readL
      rw [hT, if_pos rfl]
      rfl
    rw [hrl]
    have HS2 : Hid (∀ W, Calls Tryz.prog 79 #[.string s] W fun e W' => ∃ v, e = .returned (.tuple #[v, .int .i64 0]) ∧ ReadsT W' v T ∧ Below W.heap.size W W') := Lib.hid fun W => (HS.out W).mono fun e W' he => by
      obtain ⟨v, he, hr, hb⟩ := he
      rw [hT] at he hr
      exact ⟨v, he, hr, hb⟩
    have hTl : T.length ≤ 10000 := Nat.le_trans (len_cost T) (by omega)
    have HCUT := Lib.hid (fun v W (hv : ReadsT W v T) => cut_any v T W hv (by omega))
    have HPL : Hid (∀ p ∈ cutL T, (∀ t ∈ p.l, Ok t) ∧ cost p.l ≤ 10000) := Lib.hid (fun p hp => ⟨cut_ok T h1 p hp, Nat.le_trans (cost_piece hp) (by omega)⟩)
    have hwf : Wf (cutL T) := ⟨T, h1, rfl⟩
    obtain ⟨m0, hm0⟩ : ∃ m0, (cutL T).length = m0 + 1 := by
      cases hq : cutL T with
      | nil => exact absurd hq (cut_ne T)
      | cons p r => exact ⟨r.length, rfl⟩
    have HSTART : Hid (∀ W, StAt (lst (cutL T).length (cutL T) []) (cutL T) W W (.slice none 0 0) m0 m0 0 false []) := Lib.hid (fun W => by
      refine ⟨?_, ?_, ?_, ?_, by simp, RfAt.start W⟩
      · rw [hm0]; rfl
      · exact hwf
      · rw [List.drop_zero, hm0]; exact Nat.le_refl _
      · rw [List.drop_zero, hm0]; exact Nat.le_refl _)
    have hN : (cutL T).length ≤ 10001 := by
      have : ∀ T : List Tk, (cutL T).length ≤ T.length + 1 := by
        intro T
        induction T with
        | nil => simp [cutL]
        | cons t T ih =>
          rw [cutL]
          split
          · simp; omega
          · cases hq : cutL T with
            | nil => exact absurd hq (cut_ne T)
            | cons p r => rw [hq] at ih; simp at *; omega
      have := this T
      omega
    generalize lst (cutL T).length (cutL T) [] = R0 at *
    generalize hps : cutL T = ps0 at *
    obtain ⟨N, hNN⟩ : ∃ N, N = ps0.length := ⟨_, rfl⟩
    rw [← hNN] at hN
    have HNN := Lib.hid hNN
    clear h0 hT HS h1 h2 hrl hwf hm0 hTl hps hNN
    go_enter Tryz.func47, Tryz.ntmps47
    go_wp2_with fail
    refine (HS2.out _).mono ?_
    rintro e w0 ⟨v, rfl, hr, hb⟩
    have HB0 := Lib.hid hb
    have HC0 := Lib.hid (HCUT.out v w0 hr)
    clear hb hr
    go_wp2_with fail
    refine HC0.out.mono ?_
    rintro e W1 ⟨v1, rfl, hr, hb⟩
    have HB1 := Lib.hid (HB0.out.trans (hb.mono HB0.out.size))
    obtain ⟨pb, cap, rfl, hcap, hpc⟩ := pc_at hr
    rw [← HNN.out] at hcap ⊢
    have HPC := Lib.hid hpc
    clear hb hr hpc
    go_wp2_with fail
    go_loopw [7, 8, 9] (fun o g i wr => ∃ (n m k : Nat) (gb : Bool) (B : List Bx), k < N ∧ g = .bool gb ∧ i = .int .i64 k ∧ Hid (StAt R0 ps0 W1 wr o n m k gb B)) (fun _ _ i _ => N - (intOf i).toNat)
    case atStart =>
      refine ⟨m0, m0, 0, false, [], ?_, rfl, rfl, Lib.hid (HSTART.out W1)⟩
      have := (HSTART.out W1).wf.ne
      obtain ⟨p, _, _, h⟩ := drop_pc this
      rw [HNN.out]; exact h
    case round =>
      clear HSTART
      obtain ⟨n, m, k, gb, B, hk, rfl, rfl, hS⟩ := hrel
      obtain ⟨oa, oc, rfl⟩ := owns_slice hS.out.at_.own
      obtain ⟨bn, hbn⟩ : ∃ bn, bn = B.length := ⟨_, rfl⟩
      have hfew : bn ≤ 100 := by rw [hbn]; exact hS.out.few
      rw [← hbn] at hS ⊢
      have HBN := Lib.hid hbn
      obtain ⟨p, hp, hdr, hkl⟩ := drop_pc hS.out.wf.ne
      obtain ⟨a1, c1, hpa⟩ := HPC.out k p hp
      have HPA := Lib.hid hpa
      have hpl := HPL.out p (by
        have := List.mem_of_getElem? hp
        exact this)
      obtain ⟨l1, hl1⟩ : ∃ l1, l1 = p.l.length := ⟨_, rfl⟩
      obtain ⟨x0, x1, x2⟩ := hpa wr hS.out.at_.below
      rw [← hl1] at x0 x2
      have hl1s : l1 ≤ 10000 := by rw [hl1]; exact Nat.le_trans (len_cost _) hpl.2
      have HP0 := Lib.hid (hS.out.at_.newP #[.slice a1 l1 c1, .string p.s])
      have HWO := Lib.hid (words_any a1 l1 c1 p.s p.l (wr.alloc (.cells #[.slice a1 l1 c1, .string p.s] pcT)) hl1 (x2.below ((Below.refl _ _).alloc (Nat.le_refl _) _)) (by have := hpl.2; omega))
      have HDR := Lib.hid hdr
      have HP := Lib.hid (And.intro hp hpl)
      have HL1 := Lib.hid hl1
      clear hpa hpl x2 hp hdr hbn hl1
      go_wp2_with fail
      refine HWO.out.mono ?_
      rintro e w2 ⟨rfl, hb⟩
      have HL2 := Lib.hid (HP0.out.on hb)
      obtain ⟨p0, p1, pf0, pf1⟩ := HL2.out.cells
      clear hb
      obtain ⟨nm, hnm⟩ : ∃ nm, nm = (if plain p.l = true then ba (nameL p.l) else ⟨#[]⟩) := ⟨_, rfl⟩
      obtain ⟨bp, hbp⟩ : ∃ bp, bp = plain p.l := ⟨_, rfl⟩
      have HNM := Lib.hid hnm
      have HBP := Lib.hid hbp
      rw [← hnm, ← hbp]
      have HCO : Hid (colon p = (sgB p.s 58 && (bp && !(l1 == 0)))) := Lib.hid (by
        unfold colon
        rw [hbp]
        have : p.l.isEmpty = (l1 == 0) := by
          rw [HL1.out]
          cases p.l <;> rfl
        rw [this])
      clear hnm hbp
      dsimp only
      go_upto_region 12 with (fail)
      go_cut [57] from 42 to 57 (fun c wx => c = .bool (colon p && !gb) ∧ w2 = wx)
      case first =>
        have q58 := sg_str p.s 58
        cases hs58 : sgB p.s 58
        · rw [hs58] at q58
          go_wp2_with fail
          go_meet
          exact ⟨by rw [HCO.out, hs58]; rfl, rfl⟩
        · rw [hs58] at q58
          cases bp
          · go_wp2_with fail
            go_meet
            exact ⟨by rw [HCO.out, hs58]; rfl, rfl⟩
          · by_cases hl0 : l1 = 0
            · have hq0 : ¬ 0 < l1 := by omega
              have hq1 : (l1 == 0) = true := by rw [hl0]; rfl
              clear hl0
              go_wp2_with fail
              go_meet
              exact ⟨by rw [HCO.out, hs58, hq1]; rfl, rfl⟩
            · have hq0 : 0 < l1 := by omega
              have hq1 : (l1 == 0) = false := by rw [beq_eq_false_iff_ne]; exact hl0
              clear hl0
              cases gb
              · go_wp2_with fail
                go_meet
                exact ⟨by rw [HCO.out, hs58, hq1]; rfl, rfl⟩
              · go_wp2_with fail
                go_meet
                exact ⟨by rw [HCO.out, hs58, hq1]; rfl, rfl⟩
      case rest =>
        obtain ⟨rfl, rfl⟩ := hcut
        go_upto_if 57 with (fail)
        go_cut [7, 8, 9, 13, 14, 15, 16] from 27 to 162 (fun o g i _ _ _ _ wx => ∃ (n' m' k' : Nat) (gb' : Bool) (s' : ByteArray) (rest : List Pc) (B' : List Bx), g = .bool gb' ∧ i = .int .i64 k' ∧ k ≤ k' ∧ k' < N ∧ Hid (MtAt R0 ps0 W1 wx wr.heap.size o n' m' k' gb' s' rest B'))
        case first =>
          by_cases hcg : (colon p && !gb) = true
          · rw [hcg]
            rw [Bool.and_eq_true, Bool.not_eq_true'] at hcg
            obtain ⟨hc, rfl⟩ := hcg
            have hcc := hc
            unfold colon at hcc
            simp only [Bool.and_eq_true] at hcc
            have hwf1 := hS.out.wf
            rw [HDR.out] at hwf1
            have hwf2 : Wf (ps0.drop (k + 1)) := by
              rcases hwf1.cons with ⟨h1, _⟩ | h1
              · exact absurd (by rw [h1]) (sg_ne hcc.1)
              · exact h1.2
            obtain ⟨q, hq, hdq, hkq⟩ := drop_pc hwf2.ne
            obtain ⟨a2, c2, hqa⟩ := HPC.out (k + 1) q hq
            obtain ⟨q0, q1, _⟩ := hqa w2 HL2.out.at_.below
            obtain ⟨l2, hl2⟩ : ∃ l2, l2 = q.l.length := ⟨_, rfl⟩
            have hl2s : l2 ≤ 10000 := by rw [hl2]; exact Nat.le_trans (len_cost _) (HPL.out q (List.mem_of_getElem? hq)).2
            have hk1 : k + 1 < N := by rw [HNN.out]; exact hkq
            rw [← hl2] at q0
            have hst := hS.out.res
            have hln := hS.out.lm
            rw [HDR.out, hdq] at hst hln
            simp only [List.length_cons] at hln
            have q59 := sg_str q.s 59
            rw [hdq] at hwf2
            have HW2 := Lib.hid hwf2
            have HST := Lib.hid hst
            have HLN := Lib.hid hln
            have HDQ := Lib.hid hdq
            have HHC := Lib.hid hc
            have HL22 := Lib.hid hl2
            clear hcc hwf1 hwf2 hqa hq hst hln hdq hc hl2
            have hgo : ∀ (_ : q.l ≠ [] ∨ sgB q.s 59 = false), Hid (∃ m', m = m' + 1 ∧ StAt R0 ps0 W1 w2 (.slice oa bn oc) m' (m' + 1) (k + 1) true B) := fun hh => Lib.hid (by
              obtain ⟨m', rfl⟩ : ∃ m', m = m' + 1 := ⟨m - 1, by have := HLN.out; omega⟩
              refine ⟨m', rfl, ?_, ?_, ?_, ?_, hS.out.few, HL2.out.at_⟩
              · rw [HDQ.out, ← HST.out, st_colon_go HHC.out hh]
              · rw [HDQ.out]; exact HW2.out
              · rw [HDQ.out]; have := HLN.out; simp only [List.length_cons]; omega
              · rw [HDQ.out]; have := HLN.out; simp only [List.length_cons]; omega)
            by_cases hl0 : l2 = 0
            · have hz0 : ((l2 : Int) == 0) = true := by rw [hl0]; rfl
              cases hs59 : sgB q.s 59
              · rw [hs59] at q59
                have HGO := hgo (.inr hs59)
                clear hgo hl0 hs59
                go_wp2_with fail
                go_roundw
                obtain ⟨m', rfl, hst⟩ := HGO.out
                case rel => exact ⟨m', m' + 1, k + 1, true, B, hk1, rfl, by simp, Lib.hid hst⟩
                case measure => simp [intOf]; omega
              · rw [hs59] at q59
                have HQL : Hid (q.l = []) := Lib.hid (by rw [← List.length_eq_zero_iff, ← HL22.out]; exact hl0)
                have HS59 := Lib.hid hs59
                clear hgo hl0 hs59
                go_wp2_with fail
                go_meet
                refine ⟨m, m, k + 1, true, q.s, ps0.drop (k + 1 + 1), B, rfl, by simp, by omega, hk1, Lib.hid ⟨?_, rfl, ?_, ?_, ?_, hS.out.few, ⟨a2, l2, c2, HL2.out.set2 _ _⟩⟩⟩
                · rw [← HST.out, st_colon_empty HHC.out HQL.out HS59.out]
                · rcases HW2.out.cons with ⟨h1, _⟩ | h1
                  · exact absurd (by rw [h1]) (sg_ne HS59.out)
                  · exact .inr h1
                · have := HLN.out; omega
                · have := HLN.out; omega
            · have hz0 : ((l2 : Int) == 0) = false := by rw [beq_eq_false_iff_ne]; omega
              have HGO := hgo (.inl (fun h => hl0 (by rw [HL22.out, h]; rfl)))
              clear hgo hl0
              go_wp2_with fail
              go_roundw
              obtain ⟨m', rfl, hst⟩ := HGO.out
              case rel => exact ⟨m', m' + 1, k + 1, true, B, hk1, rfl, by simp, Lib.hid hst⟩
              case measure => simp [intOf]; omega
          · have hcf : (colon p && !gb) = false := by simpa using hcg
            rw [hcf]
            have hcc : gb = true ∨ colon p = false := by
              cases gb
              · right; simpa using hcf
              · exact .inl rfl
            have HCC := Lib.hid hcc
            clear hcg hcf hcc
            have HL3 : Hid (Loc W1 (w2.alloc (.cells #[.string ⟨#[]⟩, .string ⟨#[]⟩, .string ⟨#[]⟩] rbT)) (.slice oa bn oc) B wr.heap.size w2.heap.size #[.slice a1 l1 c1, .string p.s] ⟨⟨#[]⟩, ⟨#[]⟩, ⟨#[]⟩⟩) := Lib.hid (HL2.out.newX noBx)
            obtain ⟨r0, r1, rf0, rf1⟩ := HL3.out.lp.cells
            obtain ⟨_, _, _, xg0, _, _⟩ := HL3.out.cells
            obtain ⟨xh0, xh1, xh2, _, _, _⟩ := HL3.out.cells
            dsimp only at xh0 xh1 xh2
            go_upto_region 18 with (fail)
            go_cut [14] from 89 to 94 (fun c wx => c = .bool (angle p) ∧ w2.alloc (.cells #[.string ⟨#[]⟩, .string ⟨#[]⟩, .string ⟨#[]⟩] rbT) = wx)
            case first =>
              have q60 := sg_str p.s 60
              have hag : angle p = (sgB p.s 60 && bp) := by unfold angle; rw [HBP.out]
              cases hs60 : sgB p.s 60
              · rw [hs60] at q60
                have HAG : Hid (angle p = false) := Lib.hid (by rw [hag, hs60]; rfl)
                clear hag hs60
                go_wp2_with fail
                go_meet
                exact ⟨by rw [HAG.out], rfl⟩
              · rw [hs60] at q60
                have HAG : Hid (angle p = bp) := Lib.hid (by rw [hag, hs60]; rfl)
                clear hag hs60
                go_wp2_with fail
                go_meet
                exact ⟨by rw [HAG.out], rfl⟩
            case rest =>
              obtain ⟨rfl, rfl⟩ := hcut
              cases hang : angle p
              · have HO : Hid (∀ W, Below W1.heap.size W1 W → Calls Tryz.prog 82 #[.slice a1 l1 c1] W (AdPost (ofL p.l) W)) := Lib.hid (fun W hW => by
                  have h := (HPA.out W hW).2.2
                  rw [← HL1.out] at h
                  exact refOf_any _ p.l W h (Nat.le_trans (len_cost _) HP.out.2.2) (by have := HP.out.2.2; omega) (kinds_ok HP.out.2.1))
                have HST : Hid (stR n m gb (p :: ps0.drop (k + 1)) B = R0) := Lib.hid (by rw [← HDR.out]; exact hS.out.res)
                have HANG := Lib.hid hang
                generalize hof : ofL p.l = R at *
                obtain ⟨⟨rl, rd⟩, rc⟩ := R
                have HOF := Lib.hid hof
                clear hang hof
                go_wp2_with fail
                refine (HO.out _ HL3.out.lp.at_.below).mono ?_
                rintro e w6 ⟨rfl, hb⟩
                have HL6 := Lib.hid (HL3.out.on hb)
                have HL7 := Lib.hid (HL6.out.on ((Below.refl w6.heap.size w6).alloc (Nat.le_refl _) (boxA arT (ba rl) (ba rd))))
                clear hb
                dsimp only
                by_cases hrc : rc = 0
                · have hq0 : ((rc : Int) != 0) = false := by rw [hrc]; rfl
                  have hq0' : (rc != 0) = false := by rw [hrc]; rfl
                  by_cases hfull : bn = 100
                  · have HX : Hid (R0 = (8, [])) := Lib.hid (by
                      rw [← HST.out]
                      exact st_plain_full HCC.out HANG.out (by rw [HOF.out]; exact hrc) (by rw [← HBN.out]; exact hfull))
                    have hq1 : ((bn : Int) == 100) = true := by rw [hfull]; rfl
                    have hq1' : (bn == 100) = true := by rw [hfull]; rfl
                    have HBL := Lib.hid (HB1.out.trans (HL7.out.lp.at_.below.mono HB1.out.size))
                    clear hfull hrc
                    go_wp2_with fail
                    go_ret2
                    exact ReadP.of (B := []) HX.out (nil_readsB _) HBL.out
                  · have hq1 : ((bn : Int) == 100) = false := by rw [beq_eq_false_iff_ne]; omega
                    have hq1' : (bn == 100) = false := by rw [beq_eq_false_iff_ne]; exact hfull
                    have HRC := Lib.hid hrc
                    have HFU := Lib.hid hfull
                    obtain ⟨y0, y1⟩ := twoA (new_boxA w6 arT (ba rl) (ba rd))
                    obtain ⟨_, _, _, xf0, xf1, xf2⟩ := HL7.out.cells
                    obtain ⟨xc0, xc1, xc2, _, _, _⟩ := HL7.out.cells
                    dsimp only at xc0 xc1 xc2
                    have HL8 : Hid (Loc W1 _ (.slice oa bn oc) B wr.heap.size w2.heap.size _ ⟨⟨#[]⟩, ba rl, ba rd⟩) := Lib.hid (HL7.out.setA (ba rl) (ba rd))
                    obtain ⟨xd0, xd1, xd2, _, _, _⟩ := HL8.out.cells
                    dsimp only at xd0 xd1 xd2
                    obtain ⟨a', c', w9, hr, hh⟩ := HL8.out.app HBN.out.symm (by omega)
                    rw [show (((w6.alloc (boxA arT (ba rl) (ba rd))).setCell ⟨w2.heap.size, 1, none⟩ (.string (ba rl))).setCell ⟨w2.heap.size, 2, none⟩ (.string (ba rd))).heap.size = w6.heap.size + 1 by simp [World.setCell]] at hr
                    have HR := Lib.hid hr
                    have HL9 := Lib.hid hh.out
                    obtain ⟨s0, s1, sf0, sf1⟩ := HL9.out.cells
                    have HST2 := Lib.hid HST.out
                    clear hr hh hfull hrc
                    go_wp2_with (at_builtin; refine Lib.wpList_append_run _ rfl _ _ _ _ rfl _ _ rfl rfl _ _ HR.out ?_)
                    go_meet
                    have hlen := hS.out.ln
                    have hlem := hS.out.lm
                    rw [HDR.out] at hlen hlem
                    simp only [List.length_cons] at hlen hlem
                    refine ⟨n, m, k, gb, p.s, ps0.drop (k + 1), B ++ [⟨⟨#[]⟩, ba rl, ba rd⟩], rfl, rfl, Nat.le_refl _, hk, Lib.hid ⟨?_, rfl, ?_, by omega, by omega, ?_, ⟨a1, l1, c1, HL9.out⟩⟩⟩
                    · rw [← HST.out, st_plain_ok HCC.out HANG.out (by rw [HOF.out]; exact HRC.out) (by rw [← HBN.out]; exact HFU.out), HOF.out]
                      rfl
                    · have := hS.out.wf
                      rw [HDR.out] at this
                      exact this.cons
                    · rw [List.length_append, ← HBN.out]
                      have := HFU.out
                      simp
                      omega
                · have HX : Hid (R0 = (rc, [])) := Lib.hid (by
                    rw [← HST.out]
                    exact (st_plain_bad HCC.out HANG.out (by rw [HOF.out]; exact hrc)).trans (by rw [HOF.out]))
                  have hq0 : ((rc : Int) != 0) = true := by rw [bne_iff_ne]; omega
                  have hq0' : (rc != 0) = true := by rw [bne_iff_ne]; exact hrc
                  have HBL := Lib.hid (HB1.out.trans (HL7.out.lp.at_.below.mono HB1.out.size))
                  go_wp2_with fail
                  go_ret2
                  exact ReadP.of (B := []) HX.out (nil_readsB _) HBL.out

              · have hwf1 := hS.out.wf
                rw [HDR.out] at hwf1
                have hps : bl p.s ≠ [] := by
                  unfold angle at hang
                  rw [Bool.and_eq_true] at hang
                  exact sg_ne hang.1
                have hwf2 : Wf (ps0.drop (k + 1)) := by
                  rcases hwf1.cons with ⟨h1, _⟩ | h1
                  · exact absurd (by rw [h1]) hps
                  · exact h1.2
                obtain ⟨q, hq, hdq, hkq⟩ := drop_pc hwf2.ne
                obtain ⟨a2, c2, hqa⟩ := HPC.out (k + 1) q hq
                have hql := HPL.out q (List.mem_of_getElem? hq)
                obtain ⟨q0, q1, _⟩ := hqa _ HL3.out.lp.at_.below
                obtain ⟨l2, hl2⟩ : ∃ l2, l2 = q.l.length := ⟨_, rfl⟩
                have hl2s : l2 ≤ 10000 := by rw [hl2]; exact Nat.le_trans (len_cost _) hql.2
                have hk1 : k + 1 < N := by rw [HNN.out]; exact hkq
                have HO : Hid (∀ W, Below W1.heap.size W1 W → Calls Tryz.prog 82 #[.slice a2 l2 c2] W (AdPost (ofL q.l) W)) := Lib.hid (fun W hW => by
                  have h := (hqa W hW).2.2
                  rw [← hl2] at h
                  exact refOf_any _ q.l W h (Nat.le_trans (len_cost _) hql.2) (by have := hql.2; omega) (kinds_ok hql.1))
                rw [← hl2] at q0
                have HST : Hid (stR n m gb (p :: q :: ps0.drop (k + 1 + 1)) B = R0) := Lib.hid (by rw [← hdq, ← HDR.out]; exact hS.out.res)
                have HDQ := Lib.hid hdq
                have HW2 := Lib.hid hwf2
                have HANG := Lib.hid hang
                have HNN2 : Hid (nm = ba (nameL p.l)) := Lib.hid (by
                  have := HNM.out
                  rw [angle_plain hang, if_pos rfl] at this
                  exact this)
                generalize hof : ofL q.l = R at *
                obtain ⟨⟨rl, rd⟩, rc⟩ := R
                have HOF := Lib.hid hof
                have HL4 := Lib.hid (HL3.out.setP (.slice a2 l2 c2) (.string q.s))
                obtain ⟨xi0, xi1, xi2, xj0, xj1, xj2⟩ := HL4.out.cells
                dsimp only at xi0 xi1 xi2
                have HL5 : Hid (Loc W1 _ (.slice oa bn oc) B wr.heap.size w2.heap.size #[.slice a2 l2 c2, .string q.s] ⟨nm, ⟨#[]⟩, ⟨#[]⟩⟩) := Lib.hid (HL4.out.setN nm)
                obtain ⟨t0, t1, _, _⟩ := HL5.out.lp.cells
                clear hang hof hwf1 hwf2 hps hq hdq hqa hql hl2
                go_wp2_with fail
                refine (HO.out _ HL5.out.lp.at_.below).mono ?_
                rintro e w6 ⟨rfl, hb⟩
                have HL6 := Lib.hid (HL5.out.on hb)
                have HL7 := Lib.hid (HL6.out.on ((Below.refl w6.heap.size w6).alloc (Nat.le_refl _) (boxA arT (ba rl) (ba rd))))
                clear hb
                dsimp only
                by_cases hrc : rc = 0
                · have hq0 : ((rc : Int) != 0) = false := by rw [hrc]; rfl
                  have hq0' : (rc != 0) = false := by rw [hrc]; rfl
                  by_cases hfull : bn = 100
                  · have HX : Hid (R0 = (8, [])) := Lib.hid (by
                      rw [← HST.out]
                      exact st_angle_full HCC.out HANG.out (by rw [HOF.out]; exact hrc) (by rw [← HBN.out]; exact hfull))
                    have hq1 : ((bn : Int) == 100) = true := by rw [hfull]; rfl
                    have hq1' : (bn == 100) = true := by rw [hfull]; rfl
                    have HBL := Lib.hid (HB1.out.trans (HL7.out.lp.at_.below.mono HB1.out.size))
                    clear hfull hrc
                    go_wp2_with fail
                    go_ret2
                    exact ReadP.of (B := []) HX.out (nil_readsB _) HBL.out
                  · have hq1 : ((bn : Int) == 100) = false := by rw [beq_eq_false_iff_ne]; omega
                    have hq1' : (bn == 100) = false := by rw [beq_eq_false_iff_ne]; exact hfull
                    have HRC := Lib.hid hrc
                    have HFU := Lib.hid hfull
                    obtain ⟨y0, y1⟩ := twoA (new_boxA w6 arT (ba rl) (ba rd))
                    obtain ⟨_, _, _, xf0, xf1, xf2⟩ := HL7.out.cells
                    obtain ⟨xc0, xc1, xc2, _, _, _⟩ := HL7.out.cells
                    dsimp only at xc0 xc1 xc2
                    have HL8 : Hid (Loc W1 _ (.slice oa bn oc) B wr.heap.size w2.heap.size _ ⟨nm, ba rl, ba rd⟩) := Lib.hid (HL7.out.setA (ba rl) (ba rd))
                    obtain ⟨xd0, xd1, xd2, _, _, _⟩ := HL8.out.cells
                    dsimp only at xd0 xd1 xd2
                    obtain ⟨a', c', w9, hr, hh⟩ := HL8.out.app HBN.out.symm (by omega)
                    rw [show (((w6.alloc (boxA arT (ba rl) (ba rd))).setCell ⟨w2.heap.size, 1, none⟩ (.string (ba rl))).setCell ⟨w2.heap.size, 2, none⟩ (.string (ba rd))).heap.size = w6.heap.size + 1 by simp [World.setCell]] at hr
                    have HR := Lib.hid hr
                    have HL9 := Lib.hid hh.out
                    obtain ⟨s0, s1, sf0, sf1⟩ := HL9.out.cells
                    have HST2 := Lib.hid HST.out
                    clear hr hh hfull hrc
                    cases h62 : sgB q.s 62
                    · have q62 := sg_str q.s 62
                      rw [h62] at q62
                      have HX : Hid (R0 = (130, [])) := Lib.hid (by
                        rw [← HST.out]
                        exact st_angle_sign HCC.out HANG.out (by rw [HOF.out]; exact HRC.out) (by rw [← HBN.out]; exact HFU.out) h62)
                      have HBL := Lib.hid (HB1.out.trans (HL9.out.at_.below.mono HB1.out.size))
                      clear h62
                      go_wp2_with (at_builtin; refine Lib.wpList_append_run _ rfl _ _ _ _ rfl _ _ rfl rfl _ _ HR.out ?_)
                      go_ret2
                      exact ReadP.of (B := []) HX.out (nil_readsB _) HBL.out
                    · have q62 := sg_str q.s 62
                      rw [h62] at q62
                      have hwf3 : Wf (ps0.drop (k + 1 + 1)) := by
                        have := HW2.out
                        rw [HDQ.out] at this
                        rcases this.cons with ⟨h1, _⟩ | h1
                        · exact absurd (by rw [h1]) (sg_ne h62)
                        · exact h1.2
                      obtain ⟨u, hu, hdu, hku⟩ := drop_pc hwf3.ne
                      obtain ⟨a3, c3, hua⟩ := HPC.out (k + 1 + 1) u hu
                      obtain ⟨v0, v1, _⟩ := hua _ HL9.out.at_.below
                      obtain ⟨l3, hl3⟩ : ∃ l3, l3 = u.l.length := ⟨_, rfl⟩
                      have hl3s : l3 ≤ 10000 := by rw [hl3]; exact Nat.le_trans (len_cost _) (HPL.out u (List.mem_of_getElem? hu)).2
                      have hk2 : k + 1 + 1 < N := by rw [HNN.out]; exact hku
                      rw [← hl3] at v0
                      have HL10 := Lib.hid (HL9.out.set2 (.slice a3 l3 c3) (.string u.s))
                      obtain ⟨z0, z1, _, _⟩ := HL10.out.cells
                      have HS62 := Lib.hid h62
                      have HDU := Lib.hid hdu
                      have HW3 := Lib.hid hwf3
                      rw [HDU.out] at HST2
                      by_cases hl0 : l3 = 0
                      · have hz0 : ¬ 0 < l3 := by omega
                        have HUL : Hid (u.l = []) := Lib.hid (by rw [← List.length_eq_zero_iff, ← hl3]; exact hl0)
                        clear h62 hl0 hu hdu hua hl3 hwf3
                        go_wp2_with (at_builtin; refine Lib.wpList_append_run _ rfl _ _ _ _ rfl _ _ rfl rfl _ _ HR.out ?_)
                        go_meet
                        have hlen := hS.out.ln
                        have hlem := hS.out.lm
                        rw [HDR.out, HDQ.out, HDU.out] at hlen hlem
                        simp only [List.length_cons] at hlen hlem
                        refine ⟨n, m, k + 1 + 1, gb, u.s, ps0.drop (k + 1 + 1 + 1), B ++ [⟨nm, ba rl, ba rd⟩], rfl, by simp, by omega, hk2, Lib.hid ⟨?_, rfl, ?_, by omega, by omega, ?_, ⟨a3, l3, c3, HL10.out⟩⟩⟩
                        · rw [← HST2.out, st_angle_ok HCC.out HANG.out (by rw [HOF.out]; exact HRC.out) (by rw [← HBN.out]; exact HFU.out) HS62.out HUL.out, HOF.out, HNN2.out]
                          rfl
                        · have := HW3.out
                          rw [HDU.out] at this
                          exact this.cons
                        · rw [List.length_append, ← HBN.out]
                          have := HFU.out
                          simp
                          omega
                      · have hz0 : 0 < l3 := by omega
                        have HX : Hid (R0 = (130, [])) := Lib.hid (by
                          rw [← HST2.out]
                          exact st_angle_more HCC.out HANG.out (by rw [HOF.out]; exact HRC.out) (by rw [← HBN.out]; exact HFU.out) h62 (fun h => hl0 (by rw [hl3, h]; rfl)))
                        have HBL := Lib.hid (HB1.out.trans (HL10.out.at_.below.mono HB1.out.size))
                        clear h62 hl0 hu hdu hua hl3 hwf3
                        go_wp2_with (at_builtin; refine Lib.wpList_append_run _ rfl _ _ _ _ rfl _ _ rfl rfl _ _ HR.out ?_)
                        go_ret2
                        exact ReadP.of (B := []) HX.out (nil_readsB _) HBL.out
                · have HX : Hid (R0 = (rc, [])) := Lib.hid (by
                    rw [← HST.out]
                    exact (st_angle_bad HCC.out HANG.out (by rw [HOF.out]; exact hrc)).trans (by rw [HOF.out]))
                  have hq0 : ((rc : Int) != 0) = true := by rw [bne_iff_ne]; omega
                  have hq0' : (rc != 0) = true := by rw [bne_iff_ne]; exact hrc
                  have HBL := Lib.hid (HB1.out.trans (HL7.out.lp.at_.below.mono HB1.out.size))
                  go_wp2_with fail
                  go_ret2
                  exact ReadP.of (B := []) HX.out (nil_readsB _) HBL.out
        case rest =>
          obtain ⟨n', m', k', gb', s', rest, B', rfl, rfl, hkk, hk', hM⟩ := hcut
          obtain ⟨sa, sl, sc, hloc⟩ := hM.out.loc
          obtain ⟨ob, oc2, hov⟩ := owns_slice hloc.at_.own
          subst hov
          obtain ⟨bn2, hbn2⟩ : ∃ bn2, bn2 = B'.length := ⟨_, rfl⟩
          rw [← hbn2] at hloc hM ⊢
          have HLC := Lib.hid hloc
          obtain ⟨s0, s1, sf0, sf1⟩ := hloc.cells
          have q59 := sg_str s' 59
          have q44 := sg_str s' 44
          have qnil := empty_iff s'
          have HBL := Lib.hid (HB1.out.trans (hloc.at_.below.mono HB1.out.size))
          have HRB : Hid (ReadsB wc (.slice ob bn2 oc2) B') := Lib.hid (owns_readsB hloc.at_.own)
          clear hloc hbn2
          by_cases hsg : (sgB s' 59 && gb') = true
          · rw [Bool.and_eq_true] at hsg
            obtain ⟨h59, rfl⟩ := hsg
            rw [h59] at q59
            have hwf : Wf rest := by
              rcases hM.out.wf with ⟨h1, _⟩ | h1
              · exact absurd (by rw [h1]) (sg_ne h59)
              · exact h1.2
            have hwf0 := hwf
            rw [← hM.out.rst] at hwf0
            obtain ⟨u, hu, hdu, hku⟩ := drop_pc hwf0.ne
            rw [hM.out.rst] at hdu
            obtain ⟨a3, c3, hua⟩ := HPC.out (k' + 1) u hu
            obtain ⟨v0, v1, _⟩ := hua _ HLC.out.at_.below
            obtain ⟨l3, hl3⟩ : ∃ l3, l3 = u.l.length := ⟨_, rfl⟩
            have hl3s : l3 ≤ 10000 := by rw [hl3]; exact Nat.le_trans (len_cost _) (HPL.out u (List.mem_of_getElem? hu)).2
            have hk2 : k' + 1 < N := by rw [HNN.out]; exact hku
            rw [← hl3] at v0
            have HL10 := Lib.hid (HLC.out.set2 (.slice a3 l3 c3) (.string u.s))
            obtain ⟨z0, z1, _, _⟩ := HL10.out.cells
            have HBL2 := Lib.hid (HB1.out.trans (HL10.out.at_.below.mono HB1.out.size))
            have HRB2 : Hid (ReadsB ((wc.setCell ⟨wr.heap.size, 0, none⟩ (.slice a3 l3 c3)).setCell ⟨wr.heap.size, 1, none⟩ (.string u.s)) (.slice ob bn2 oc2) B') := Lib.hid (by
              have := owns_readsB HL10.out.at_.own
              exact this)
            have hres := hM.out.res
            rw [hdu] at hres hwf
            have u44 := sg_str u.s 44
            have unil := empty_iff u.s
            have HW := Lib.hid hwf
            have HRES := Lib.hid hres
            have HDU := Lib.hid hdu
            have H59 := Lib.hid h59
            have HL3 := Lib.hid hl3
            clear hwf hwf0 hu hdu hua hl3 hres h59
            by_cases hl0 : l3 = 0
            · have hz0 : ¬ 0 < l3 := by omega
              have HUL : Hid (u.l = []) := Lib.hid (by rw [← List.length_eq_zero_iff, ← HL3.out]; exact hl0)
              clear hl0
              cases hun : (bl u.s).isEmpty
              · rw [hun] at unil
                cases hu44 : sgB u.s 44
                · rw [hu44] at u44
                  have HX : Hid (R0 = (130, [])) := Lib.hid (by
                    rw [← HRES.out]
                    exact mt_semi_no H59.out HUL.out (fun h => by rw [h] at hun; cases hun) (fun h => by unfold sgB at hu44; rw [h] at hu44; cases hu44))
                  clear hun hu44
                  go_wp2_with fail
                  go_ret2
                  exact ReadP.of (B := []) HX.out (nil_readsB _) HBL2.out
                · rw [hu44] at u44
                  have HU44 : Hid (bl u.s = [44]) := Lib.hid (by unfold sgB at hu44; exact beq_iff_eq.1 hu44)
                  clear hun hu44
                  go_wp2_with fail
                  go_roundw
                  have hlm := hM.out.lm
                  rw [HDU.out] at hlm
                  simp only [List.length_cons] at hlm
                  have hwn : Wf (ps0.drop (k' + 1 + 1)) ∧ rest = u :: ps0.drop (k' + 1 + 1) := by
                    refine ⟨?_, HDU.out⟩
                    rcases HW.out.cons with ⟨h1, _⟩ | h1
                    · exact absurd (show bl u.s = [] by rw [h1]) (by rw [HU44.out]; simp)
                    · exact h1.2
                  obtain ⟨m'', rfl⟩ : ∃ m'', m' = m'' + 1 := ⟨m' - 1, by omega⟩
                  have hk3 : k' + 1 + 1 < N := by
                    obtain ⟨_, _, _, h⟩ := drop_pc hwn.1.ne
                    rw [HNN.out]; exact h
                  case rel => exact ⟨m'', m'', k' + 1 + 1, false, B', hk3, rfl, by simp, Lib.hid ⟨by rw [← HRES.out]; exact (mt_semi_on m'' H59.out HUL.out HU44.out).symm, hwn.1, by omega, by omega, hM.out.few, HL10.out.at_⟩⟩
                  case measure => simp [intOf]; omega
              · rw [hun] at unil
                have HUN : Hid (bl u.s = []) := Lib.hid (List.isEmpty_iff.1 hun)
                have HX : Hid (R0 = (0, B')) := Lib.hid (by
                  rw [← HRES.out]
                  rcases HW.out.cons with ⟨_, h1⟩ | h1
                  · rw [h1]
                    exact mt_semi_end H59.out HUL.out HUN.out
                  · exact absurd HUN.out h1.1)
                clear hun
                go_wp2_with fail
                go_ret2
                exact ReadP.of HX.out HRB2.out HBL2.out
            · have hz0 : 0 < l3 := by omega
              have HX : Hid (R0 = (130, [])) := Lib.hid (by
                rw [← HRES.out]
                exact mt_semi_more H59.out (fun h => hl0 (by rw [HL3.out, h]; rfl)))
              clear hl0
              go_wp2_with fail
              go_ret2
              exact ReadP.of (B := []) HX.out (nil_readsB _) HBL2.out
          · have hno : gb' = false ∨ sgB s' 59 = false := by
              cases gb'
              · exact .inl rfl
              · right; simpa using hsg
            clear hsg
            cases hsn : (bl s').isEmpty
            · rw [hsn] at qnil
              have hne : bl s' ≠ [] := fun h => by rw [h] at hsn; cases hsn
              cases h44 : sgB s' 44
              · rw [h44] at q44
                have HX : Hid (R0 = (130, [])) := Lib.hid (by
                  rw [← hM.out.res]
                  exact mt_no (fun h => by unfold sgB at h44; rw [h] at h44; cases h44) (.inr hne) hno)
                clear hsn h44 hne
                cases h59 : sgB s' 59 <;> rw [h59] at q59 hno
                all_goals cases gb'
                all_goals first
                  | (exfalso; rcases hno with h | h <;> cases h; done)
                  | (clear hno
                     go_wp2_with fail
                     go_ret2
                     exact ReadP.of (B := []) HX.out (nil_readsB _) HBL.out)
              · rw [h44] at q44
                have H44 : Hid (bl s' = [44]) := Lib.hid (by unfold sgB at h44; exact beq_iff_eq.1 h44)
                have q59' : (s'.toList == [59]) = false := by
                  rw [q59]
                  unfold sgB
                  rw [H44.out]
                  rfl
                have hwf : Wf rest := by
                  rcases hM.out.wf with ⟨h1, _⟩ | h1
                  · exact absurd (by rw [h1]) hne
                  · exact h1.2
                have HW := Lib.hid hwf
                clear q59 hno hsn h44 hne hwf
                have hk3 : k' + 1 < N := by
                  have h1 := HW.out
                  rw [← hM.out.rst] at h1
                  obtain ⟨_, _, _, h⟩ := drop_pc h1.ne
                  rw [HNN.out]; exact h
                have hln := hM.out.ln
                have hlm := hM.out.lm
                have hne : rest.length ≠ 0 := fun h => HW.out.ne (List.length_eq_zero_iff.1 h)
                cases gb'
                · obtain ⟨m'', rfl⟩ : ∃ m'', m' = m'' + 1 := ⟨m' - 1, by omega⟩
                  have HSS : Hid (StAt R0 ps0 W1 wc (.slice ob bn2 oc2) m'' m'' (k' + 1) false B') := Lib.hid ⟨by rw [hM.out.rst, ← hM.out.res]; exact (mt_on_list m'' H44.out).symm, by rw [hM.out.rst]; exact HW.out, by rw [hM.out.rst]; omega, by rw [hM.out.rst]; omega, hM.out.few, HLC.out.at_⟩
                  clear hln hlm hne
                  go_wp2_with fail
                  go_roundw
                  case rel => exact ⟨m'', m'', k' + 1, false, B', hk3, rfl, by simp, HSS⟩
                  case measure => simp [intOf]; omega
                · obtain ⟨n'', rfl⟩ : ∃ n'', n' = n'' + 1 := ⟨n' - 1, by omega⟩
                  have HSS : Hid (StAt R0 ps0 W1 wc (.slice ob bn2 oc2) n'' m' (k' + 1) true B') := Lib.hid ⟨by rw [hM.out.rst, ← hM.out.res]; exact (mt_on_grp H44.out).symm, by rw [hM.out.rst]; exact HW.out, by rw [hM.out.rst]; omega, by rw [hM.out.rst]; omega, hM.out.few, HLC.out.at_⟩
                  clear hln hlm hne
                  go_wp2_with fail
                  go_roundw
                  case rel => exact ⟨n'', m', k' + 1, true, B', hk3, rfl, by simp, HSS⟩
                  case measure => simp [intOf]; omega
            · rw [hsn] at qnil
              have he : bl s' = [] := List.isEmpty_iff.1 hsn
              have q59' : (s'.toList == [59]) = false := by
                rw [q59]
                unfold sgB
                rw [he]
                rfl
              have q44' : (s'.toList == [44]) = false := by
                rw [q44]
                unfold sgB
                rw [he]
                rfl
              have HE := Lib.hid he
              clear q59 q44 hno hsn he
              cases gb'
              · have HX : Hid (R0 = (0, B')) := Lib.hid (by
                  rw [← hM.out.res]
                  rcases hM.out.wf with ⟨_, h1⟩ | h1
                  · rw [h1]
                    exact mt_end HE.out
                  · exact absurd HE.out h1.1)
                go_wp2_with fail
                go_ret2
                exact ReadP.of HX.out HRB.out HBL.out
              · have HX : Hid (R0 = (130, [])) := Lib.hid (by
                  rw [← hM.out.res]
                  exact mt_no (fun h => by rw [HE.out] at h; cases h) (.inl rfl) (.inr (by unfold sgB; rw [HE.out]; rfl)))
                go_wp2_with fail
                go_ret2
                exact ReadP.of (B := []) HX.out (nil_readsB _) HBL.out
  · have hX : readL (bl s) = ((scan (bl s)).1, []) := by
      unfold readL
      rw [if_neg h0]
    have HX := Lib.hid hX
    have hne := int_ne h0
    generalize hsc : scan (bl s) = R at *
    have HS2 : Hid (∀ W, Calls Tryz.prog 79 #[.string s] W fun e W' => ∃ v, e = .returned (.tuple #[v, .int .i64 R.1]) ∧ Below W.heap.size W W') := Lib.hid fun W => (HS.out W).mono fun e W' he => by
      obtain ⟨v, he, hr, hb⟩ := he
      rw [hsc] at he
      exact ⟨v, he, hb⟩
    clear HS hsc h0 hX
    go_enter Tryz.func47, Tryz.ntmps47
    go_wp2_with fail
    refine (HS2.out _).mono ?_
    rintro e w1 ⟨v, rfl, hb⟩
    have HB := Lib.hid hb
    clear hb
    go_wp2_with fail
    go_ret2
    exact ReadP.of HX.out (nil_readsB _) HB.out
end Go.Proofs.YtegbkfloiiilfaaGreatDoor.Mbx
