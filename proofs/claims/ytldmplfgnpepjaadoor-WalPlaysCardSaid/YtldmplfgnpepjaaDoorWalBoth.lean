/-
  Walk of the law WalPlays: both logs do the same.
-/
import Derived.Test.YtldmplfgnpepjaaDoorWalRef
import Derived.Deep.CutBlock

/-
  What the law WalPlays rests on: both logs beside each other, the document's in its box; how each call moves them.
-/
namespace Go.Proofs.YtldmplfgnpepjaaDoor.Wal
open Go Go.RowKit
open Go.Proofs.YtldmplfgnpepjaaDoor.Disk
open Go.Proofs.YtldmplfgnpepjaaDoor.Nets (Reads Tab Small bl ba)

def Out (k : Wk) (qb b : Nat) : Prop := ownW k b ∨ b = qb
structure PlaysAt (W0 : World) (pb qb m j : Nat) (wr : World) (k : Wk) (S : St) (L : Wl) (gs : List Grp) (s : ByteArray) (tv wv : Value) : Prop where
  log : Log wr k S L
  has : Has S L.half gs
  end_ : L.at_ = (framesS gs).length
  left : S.left = 0
  ops : S.ops ≤ 3 + 84 * j
  pb : k.d.pb = pb
  mm : m = sec S.dur.length * S.z
  box : Lies wr qb (qC m L.half s tv wv S.full) qT
  bs : bl s = framesS gs
  tvR : Rd (Out k qb) wr tv gs.flatten
  wvR : Rd (Out k qb) wr wv L.wait
  qbN : ¬ ownW k qb
  few : L.wait.length ≤ j
  small : ∀ x ∈ L.wait, x.size ≤ 300
  old : Below W0.heap.size W0 wr
  low : W0.heap.size ≤ k.d.B
  qlow : W0.heap.size ≤ qb
/-- A call on the log, or a log opened in its place. -/
structure Mv (w : World) (k : Wk) (w' : World) (k' : Wk) : Prop where
  fr : Fr (ownW k) w w'
  B : k'.d.B = k.d.B
  pb : k'.d.pb = k.d.pb
  own : ∀ b, ownW k' b → ownW k b ∨ w.heap.size ≤ b
theorem StepW.mv {w w' : World} {k k' : Wk} (h : StepW w k w' k') : Mv w k w' k' := ⟨h.fr, h.B, h.pb, h.own⟩
theorem lies_sets {w : World} {b i : Nat} {cs : Array Value} {t : TypeId} {v : Value} {cs' : Array Value} (h : Lies w b cs t) (e : cs.setIfInBounds i v = cs') : Lies (w.setCell ⟨b, i, none⟩ v) b cs' t := e ▸ h.set i v
section
variable {W0 wr : World} {pb qb m j : Nat} {k : Wk} {S : St} {L : Wl} {gs : List Grp} {s : ByteArray} {tv wv : Value}
theorem PlaysAt.below (h : PlaysAt W0 pb qb m j wr k S L gs s tv wv) {W : World} (hb : Below wr.heap.size wr W) : PlaysAt W0 pb qb m j W k S L gs s tv wv :=
  ⟨h.log.below hb, h.has, h.end_, h.left, h.ops, h.pb, h.mm, h.box.same (hb.block _ h.box.lt), h.bs, h.tvR.below hb fun _ _ => .inr trivial, h.wvR.below hb fun _ _ => .inr trivial, h.qbN, h.few, h.small, h.old.trans (hb.mono h.old.size), h.low, h.qlow⟩
theorem PlaysAt.sizes (h : PlaysAt W0 pb qb m j wr k S L gs s tv wv) : s.size = (framesS gs).length ∧ s.size ≤ 2000 ∧ m ≤ 2000 ∧ 48 ≤ m ∧ s.size + 1 ≤ m := by
  have h1 : s.size = (framesS gs).length := by rw [← bl_len, h.bs]
  have h2 := h.has.flat.2.1
  have h3 : sec S.dur.length * S.z ≤ 19 * 64 := Nat.mul_le_mul (by have := h.has.lg.n2; unfold sec; omega) h.has.lg.z2
  have h4 := half_room h.has.lg.n1 h.has.lg.z1
  have h5 := h.has.lg.room
  have h6 := h.mm
  omega
/-- The lists that stay. -/
theorem PlaysAt.rd (h : PlaysAt W0 pb qb m j wr k S L gs s tv wv) {w2 w3 : World} {k2 : Wk} (mv : Mv wr k w2 k2) (hf : Fr (fun b => b = qb) w2 w3) {v : Value} {ss : List ByteArray} (hr : Rd (Out k qb) wr v ss) : Rd (Out k2 qb) w3 v ss :=
  have _ := h.qlow
  (hr.frame (F' := Out k2 qb) mv.fr (fun _ e => .inl e) fun b e => by
    rcases e with e | e
    · rcases mv.own b e with e2 | e2
      · exact .inl (.inl e2)
      · exact .inr e2
    · exact .inl (.inr e)).frame hf (fun _ e => .inr e) fun _ e => .inl e
/-- A list that was just made. -/
theorem fresh_rd {w2 w4 w3 : World} {k2 : Wk} {S2 : St} {L2 : Wl} (hl : Log w2 k2 S2 L2) (hq : qb < w2.heap.size) {v : Value} {ss : List ByteArray} (ho : w4.ownsRow w2.heap.size strT 1 v ss.length (ss.map Value.string)) (hf : Fr (fun b => b = qb) w4 w3) : Rd (Out k2 qb) w3 v ss := by
  refine Rd.owns (Fr.owns ho hf fun b hb e => ?_) fun b hb e => ?_
  · have := (ho.lt b hb).1
    omega
  · have h1 := (ho.lt b hb).1
    rcases e with e | e
    · have := (hl.own_lt e).1; omega
    · omega
theorem PlaysAt.next (h : PlaysAt W0 pb qb m j wr k S L gs s tv wv) {w2 w3 : World} {k2 : Wk} {S2 : St} {L2 : Wl} {gs2 : List Grp} {s2 : ByteArray} {tv2 wv2 : Value} (hl : Log w2 k2 S2 L2) (mv : Mv wr k w2 k2) (hf : Fr (fun b => b = qb) w2 w3)
    (hbox : Lies w3 qb (qC m L2.half s2 tv2 wv2 S2.full) qT) (htv : Rd (Out k2 qb) w3 tv2 gs2.flatten) (hwv : Rd (Out k2 qb) w3 wv2 L2.wait) (has : Has S2 L2.half gs2) (he : L2.at_ = (framesS gs2).length) (hk : Kin S S2 84) (hbs : bl s2 = framesS gs2)
    (hfew : L2.wait.length ≤ j + 1) (hsm : ∀ x ∈ L2.wait, x.size ≤ 300) : PlaysAt W0 pb qb m (j + 1) w3 k2 S2 L2 gs2 s2 tv2 wv2 := by
  have hq : ¬ ownW k2 qb := fun e => by
    rcases mv.own qb e with e | e
    · exact h.qbN e
    · have := h.box.lt; omega
  refine ⟨hl.frame hf fun b e o => hq (e ▸ o), has, he, hk.left h.left, by have := hk.ops; have := h.ops; omega, mv.pb.trans h.pb, by rw [hk.len, hk.z]; exact h.mm, hbox, hbs, htv, hwv, hq, hfew, hsm, ?_, by rw [mv.B]; exact h.low, h.qlow⟩
  exact (h.old.trans (mv.fr.below h.old.size fun b hb => Nat.le_trans h.low (h.log.own_lt hb).2)).trans (hf.below (Nat.le_trans h.old.size mv.fr.size) fun b e => by rw [e]; exact h.qlow)
theorem PlaysAt.boxAt (h : PlaysAt W0 pb qb m j wr k S L gs s tv wv) {w2 : World} {k2 : Wk} (mv : Mv wr k w2 k2) : Lies w2 qb (qC m L.half s tv wv S.full) qT ∧ qb < w2.heap.size :=
  ⟨h.box.same (mv.fr.block _ h.box.lt h.qbN), Nat.lt_of_lt_of_le h.box.lt mv.fr.size⟩
/-- Drop. -/
theorem PlaysAt.dropped (h : PlaysAt W0 pb qb m j wr k S L gs s tv wv) {w2 : World} {k2 : Wk} (hl : Log w2 k2 S { L with wait := [] }) (mv : Mv wr k w2 k2) : PlaysAt W0 pb qb m (j + 1) (w2.setCell ⟨qb, 4, none⟩ (.slice none 0 0)) k2 S { L with wait := [] } gs s tv (.slice none 0 0) :=
  h.next hl mv (Fr.one w2 qb 4 _) (lies_sets (h.boxAt mv).1 rfl) (h.rd mv (Fr.one w2 qb 4 _) h.tvR) Rd.nil h.has h.end_ (Kin.refl _ _) h.bs (Nat.zero_le _) fun x hx => by cases hx
/-- Fill. -/
theorem PlaysAt.filled (h : PlaysAt W0 pb qb m j wr k S L gs s tv wv) {w2 : World} {k2 : Wk} {b : Bool} (hl : Log w2 k2 (fillS S b) L) (mv : Mv wr k w2 k2) : PlaysAt W0 pb qb m (j + 1) (w2.setCell ⟨qb, 5, none⟩ (.bool b)) k2 (fillS S b) L gs s tv wv := by
  have hn := h.next (S2 := S) (L2 := L) (w2 := wr) (w3 := wr) (k2 := k) h.log (StepW.refl _ _).mv (Fr.refl _ _) h.box h.tvR h.wvR h.has h.end_ (Kin.refl _ _) h.bs (Nat.le_succ_of_le h.few) h.small
  have hq : ¬ ownW k2 qb := fun e => by
    rcases mv.own qb e with e | e
    · exact h.qbN e
    · have := h.box.lt; omega
  refine ⟨hl.frame (Fr.one w2 qb 5 _) fun b e o => hq (e ▸ o), h.has.fill b, h.end_, h.left, hn.ops, mv.pb.trans h.pb, h.mm, lies_sets (h.boxAt mv).1 rfl, h.bs, h.rd mv (Fr.one w2 qb 5 _) h.tvR, h.rd mv (Fr.one w2 qb 5 _) h.wvR, hq, hn.few, h.small, ?_, by rw [mv.B]; exact h.low, h.qlow⟩
  exact (h.old.trans (mv.fr.below h.old.size fun b hb => Nat.le_trans h.low (h.log.own_lt hb).2)).trans ((Fr.one w2 qb 5 _).below (Nat.le_trans h.old.size mv.fr.size) fun b e => by rw [e]; exact h.qlow)
/-- Append. -/
theorem PlaysAt.appended (h : PlaysAt W0 pb qb m j wr k S L gs s tv wv) {x : ByteArray} (hx : x.size ≤ 300) {w2 w3 : World} {k2 : Wk} {v : Value} (hl : Log w2 k2 S { L with wait := L.wait ++ [x] }) (mv : Mv wr k w2 k2)
    {w4 : World} (hb : Below w2.heap.size w2 w4) (ho : w4.ownsRow w2.heap.size strT 1 v (L.wait ++ [x]).length ((L.wait ++ [x]).map Value.string)) (h3 : w3 = w4.setCell ⟨qb, 4, none⟩ v) : PlaysAt W0 pb qb m (j + 1) w3 k2 S { L with wait := L.wait ++ [x] } gs s tv v := by
  subst h3
  have hf : Fr (fun b => b = qb) w2 (w4.setCell ⟨qb, 4, none⟩ v) := (Fr.of_below hb).trans (Fr.one w4 qb 4 _) fun _ _ e => e
  have hq := (h.boxAt mv).2
  refine h.next hl mv hf (lies_sets ((h.boxAt mv).1.same (hb.block _ hq)) rfl) (h.rd mv hf h.tvR) (fresh_rd hl hq ho (Fr.one w4 qb 4 _)) h.has h.end_ (Kin.refl _ _) h.bs (by have := h.few; simp; omega) fun y hy => ?_
  rcases List.mem_append.1 hy with hy | hy
  · exact h.small y hy
  · obtain rfl := List.mem_singleton.1 hy
    exact hx
/-- The log opened anew. -/
theorem PlaysAt.open_mv (h : PlaysAt W0 pb qb m j wr k S L gs s tv wv) {w2 : World} {k2 : Wk} (hd : k2.d = k.d) (hb : Below wr.heap.size wr w2) (ho : ∀ b, ownW k2 b → own k.d b ∨ wr.heap.size ≤ b) : Mv wr k w2 k2 :=
  have _ := h.qlow
  ⟨Fr.of_below hb, by rw [hd], by rw [hd], fun b e => (ho b e).imp (fun e => .inl e) id⟩
theorem PlaysAt.opened (h : PlaysAt W0 pb qb m j wr k S L gs s tv wv) {w2 : World} {k2 : Wk} (hl : Log w2 k2 S ⟨L.half, (framesS gs).length, []⟩) (mv : Mv wr k w2 k2) : PlaysAt W0 pb qb m (j + 1) (w2.setCell ⟨qb, 4, none⟩ (.slice none 0 0)) k2 S ⟨L.half, (framesS gs).length, []⟩ gs s tv (.slice none 0 0) :=
  h.next hl mv (Fr.one w2 qb 4 _) (lies_sets (h.boxAt mv).1 rfl) (h.rd mv (Fr.one w2 qb 4 _) h.tvR) Rd.nil h.has rfl (Kin.refl _ _) h.bs (Nat.zero_le _) fun x hx => by cases hx
/-- Sync, of both. -/
theorem PlaysAt.synced (h : PlaysAt W0 pb qb m j wr k S L gs s tv wv) {w2 w4 : World} {k2 : Wk} {S' : St} {L' : Wl} {x c : Int} {s' : ByteArray} {tv' : Value} (hl : Log w2 k2 S' L') (mv : Mv wr k w2 k2) (ho : SyncO S L gs S' L' x) (hk : Kin S S' 84)
    (hr : RSync w2 m s tv S.full gs.flatten L.wait w4 s' tv' c) (hb : Below w2.heap.size w2 w4) :
    x = c ∧ ∃ gs', PlaysAt W0 pb qb m (j + 1) (fill6 w4 qb (.int .i64 m) (.int .i64 L.half) (.string s') tv' (.slice none 0 0) (.bool S.full)) k2 S' L' gs' s' tv' (.slice none 0 0) := by
  have hsz := h.sizes
  have hmm := h.mm
  have hq := (h.boxAt mv).2
  have hbx : Lies w4 qb (qC m L.half s tv wv S.full) qT := (h.boxAt mv).1.same (hb.block _ hq)
  have hff := fr_fill6 w4 qb (.int .i64 m) (.int .i64 L.half) (.string s') tv' (.slice none 0 0) (.bool S.full)
  have hf : Fr (fun b => b = qb) w2 (fill6 w4 qb (.int .i64 m) (.int .i64 L.half) (.string s') tv' (.slice none 0 0) (.bool S.full)) := (Fr.of_below hb).trans hff fun _ _ e => e
  have hbx2 := lies_fill6 hbx (.int .i64 m) (.int .i64 L.half) (.string s') tv' (.slice none 0 0) (.bool S.full)
  have hst : ∀ {gs' : List Grp}, Has S' L'.half gs' → L'.half = L.half → L'.wait = [] → L'.at_ = (framesS gs').length → bl s' = framesS gs' → Rd (Out k2 qb) (fill6 w4 qb (.int .i64 m) (.int .i64 L.half) (.string s') tv' (.slice none 0 0) (.bool S.full)) tv' gs'.flatten →
      PlaysAt W0 pb qb m (j + 1) (fill6 w4 qb (.int .i64 m) (.int .i64 L.half) (.string s') tv' (.slice none 0 0) (.bool S.full)) k2 S' L' gs' s' tv' (.slice none 0 0) := fun {gs'} h1 h2 h3 h4 h5 h6 =>
    h.next hl mv hf (by rw [h2, hk.full]; exact hbx2) h6 (by rw [h3]; exact Rd.nil) h1 h4 hk h5 (by rw [h3]; exact Nat.zero_le _) (by rw [h3]; intro x hx; cases hx)
  cases hr with
  | none hw hs ht =>
    subst hs ht
    cases ho with
    | none _ hS hL => subst hS hL; exact ⟨rfl, gs, hst h.has rfl rfl h.end_ h.bs (h.rd mv hf h.tvR)⟩
    | room hw2 => exact absurd hw hw2
    | full hw2 => exact absurd hw hw2
    | power hl0 => exact absurd h.left hl0
    | done hw2 => exact absurd hw hw2
  | room hw hr hs ht =>
    subst hs ht
    cases ho with
    | none hw2 => exact absurd hw2 hw
    | room _ _ hS hL => subst hS hL; exact ⟨rfl, gs, hst h.has rfl rfl h.end_ h.bs (h.rd mv hf h.tvR)⟩
    | full _ hr2 => exfalso; omega
    | power hl0 => exact absurd h.left hl0
    | done _ hr2 => exfalso; omega
  | full hw hr hfu hs ht =>
    subst hs ht
    cases ho with
    | none hw2 => exact absurd hw2 hw
    | room _ hr2 => exfalso; omega
    | full _ _ _ hS hL => subst hL; exact ⟨rfl, gs, hst hS rfl rfl h.end_ h.bs (h.rd mv hf h.tvR)⟩
    | power hl0 => exact absurd h.left hl0
    | done _ _ hf2 => rw [hfu] at hf2; cases hf2
  | done hw hr hfu hs ht =>
    cases ho with
    | none hw2 => exact absurd hw2 hw
    | room _ hr2 => exfalso; omega
    | full _ _ hf2 => rw [hfu] at hf2; cases hf2
    | power hl0 => exact absurd h.left hl0
    | done _ _ _ hS hL =>
      subst hL
      have e : (gs ++ [L.wait]).flatten = gs.flatten ++ L.wait := by rw [List.flatten_append, List.flatten_singleton]
      exact ⟨rfl, gs ++ [L.wait], hst hS rfl rfl rfl (by rw [hs, h.bs, frames_snoc]) (by rw [e]; exact fresh_rd hl hq ht hff)⟩
/-- Reset, of both. -/
theorem PlaysAt.resetted (h : PlaysAt W0 pb qb m j wr k S L gs s tv wv) {w2 w4 : World} {k2 : Wk} {S' : St} {L' : Wl} {x c : Int} {h' : Nat} {s' : ByteArray} {tv' lv : Value} {l : List ByteArray} (hl : Log w2 k2 S' L') (mv : Mv wr k w2 k2) (ho : ResetO S L gs l S' L' x) (hk : Kin S S' 84)
    (hr : RReset m L.half s tv lv S.full l h' s' tv' c) (hb : Below w2.heap.size w2 w4) (hlv : Reads W0 lv l) :
    x = c ∧ ∃ gs', PlaysAt W0 pb qb m (j + 1) (fill6 w4 qb (.int .i64 m) (.int .i64 h') (.string s') tv' wv (.bool S.full)) k2 S' L' gs' s' tv' wv := by
  have hsz := h.sizes
  have hmm := h.mm
  have hq := (h.boxAt mv).2
  have hbx : Lies w4 qb (qC m L.half s tv wv S.full) qT := (h.boxAt mv).1.same (hb.block _ hq)
  have hff := fr_fill6 w4 qb (.int .i64 m) (.int .i64 h') (.string s') tv' wv (.bool S.full)
  have hf : Fr (fun b => b = qb) w2 (fill6 w4 qb (.int .i64 m) (.int .i64 h') (.string s') tv' wv (.bool S.full)) := (Fr.of_below hb).trans hff fun _ _ e => e
  have hbx2 := lies_fill6 hbx (.int .i64 m) (.int .i64 h') (.string s') tv' wv (.bool S.full)
  have hwv : Rd (Out k2 qb) (fill6 w4 qb (.int .i64 m) (.int .i64 h') (.string s') tv' wv (.bool S.full)) wv L.wait := h.rd mv hf h.wvR
  have hst : ∀ {gs' : List Grp}, Has S' L'.half gs' → L'.half = h' → L'.wait = L.wait → L'.at_ = (framesS gs').length → bl s' = framesS gs' → Rd (Out k2 qb) (fill6 w4 qb (.int .i64 m) (.int .i64 h') (.string s') tv' wv (.bool S.full)) tv' gs'.flatten →
      PlaysAt W0 pb qb m (j + 1) (fill6 w4 qb (.int .i64 m) (.int .i64 h') (.string s') tv' wv (.bool S.full)) k2 S' L' gs' s' tv' wv := fun {gs'} h1 h2 h3 h4 h5 h6 =>
    h.next hl mv hf (by rw [h2, hk.full]; exact hbx2) h6 (by rw [h3]; exact hwv) h1 h4 hk h5 (by rw [h3]; exact Nat.le_succ_of_le h.few) (by rw [h3]; exact h.small)
  cases hr with
  | room hr hh hs ht =>
    subst hs ht hh
    cases ho with
    | room _ hS hL => subst hS hL; exact ⟨rfl, gs, hst h.has rfl rfl h.end_ h.bs (h.rd mv hf h.tvR)⟩
    | full hr2 => exfalso; omega
    | power hl0 => exact absurd h.left hl0
    | done hr2 => exfalso; omega
  | full hr hfu hh hs ht =>
    subst hs ht hh
    cases ho with
    | room hr2 => exfalso; omega
    | full _ _ hS hL => subst hL; exact ⟨rfl, gs, hst hS rfl rfl h.end_ h.bs (h.rd mv hf h.tvR)⟩
    | power hl0 => exact absurd h.left hl0
    | done _ hf2 => rw [hfu] at hf2; cases hf2
  | done hr hfu hh hs ht =>
    subst ht hh
    cases ho with
    | room hr2 => exfalso; omega
    | full _ hf2 => rw [hfu] at hf2; cases hf2
    | power hl0 => exact absurd h.left hl0
    | done _ _ hS hL =>
      subst hL
      have hold : Below W0.heap.size W0 (fill6 w4 qb (.int .i64 m) (.int .i64 (1 - L.half : Nat)) (.string s') tv' wv (.bool S.full)) := (h.old.trans (mv.fr.below h.old.size fun b hb => Nat.le_trans h.low (h.log.own_lt hb).2)).trans (hf.below (Nat.le_trans h.old.size mv.fr.size) fun b e => by rw [e]; exact h.qlow)
      refine ⟨rfl, newG l, hst hS rfl rfl rfl hs ?_⟩
      rw [newG_flat]
      refine Rd.old (hlv.below hold) (reads_lt hlv) hold.size fun b e => ?_
      rcases e with e | e
      · have h1 := (hl.own_lt e).2
        rw [mv.B] at h1
        exact Nat.le_trans h.low h1
      · rw [e]; exact h.qlow
end
end Go.Proofs.YtldmplfgnpepjaaDoor.Wal

/-
  Walks of the law WalPlays: its beginning, its loads in regions that draw.
-/
namespace Go.Proofs.YtldmplfgnpepjaaDoor.Wal
open Go Go.RowKit
open Go.Proofs.YtldmplfgnpepjaaDoor.Disk
open Go.Proofs.YtldmplfgnpepjaaDoor.Nets (Reads Tab Small bl ba)
open Go.Proofs.YtldmplfgnpepjaaDoor.Sha (Kept wp_region_kept quiet_load_arr)

theorem quiet_load_sl {P : Program} {C : World → Prop} {o : Oper} {a : Act} {K : Act → Prop} (ty e : TypeId) (x : Operand) (ho : o.op = .load ty x) (p : Addr) (hx : a.eval x = .pointer (some p)) (v : Value)
    (hc : ∀ w, C w → w.cell? p = some v) (hu : P.underlying ty = some (.slice e)) (h : K (a.put o.dst v)) : o.quiet P a C K :=
  ⟨_, fun w hw => by
    have h1 := hc w hw
    unfold Oper.quietAt execOp
    simp [ho, hx, Instr.loadAt, Instr.sureAddr, loadVar, isAgg, run_underlying hu, h1]
    exact ⟨rfl, rfl⟩, h⟩
theorem quiet_load_int {P : Program} {C : World → Prop} {o : Oper} {a : Act} {K : Act → Prop} (ty : TypeId) (x : Operand) (ho : o.op = .load ty x) (p : Addr) (hx : a.eval x = .pointer (some p)) (v : Value) (q : IntKind)
    (hc : ∀ w, C w → w.cell? p = some v) (hu : P.underlying ty = some (.int q)) (h : K (a.put o.dst v)) : o.quiet P a C K :=
  ⟨_, fun w hw => by
    have h1 := hc w hw
    unfold Oper.quietAt execOp
    simp [ho, hx, Instr.loadAt, Instr.sureAddr, loadVar, isAgg, run_underlying hu, h1]
    exact ⟨rfl, rfl⟩, h⟩
theorem PlaysAt.start {W0 W : World} {k : Wk} {n z m qb : Nat} (hl : Log W k (fmtS n z) ⟨0, 0, []⟩) (h1 : 8 ≤ n) (h2 : n ≤ 40) (h3 : 16 ≤ z) (h4 : z ≤ 64) (hbox : Lies W qb (qC m 0 ⟨#[]⟩ (.slice none 0 0) (.slice none 0 0) false) qT) (hq : ¬ ownW k qb)
    (hold : Below W0.heap.size W0 W) (hlow : W0.heap.size ≤ k.d.B) (hql : W0.heap.size ≤ qb) (hm : m = sec n * z) : PlaysAt W0 k.d.pb qb m 0 W k (fmtS n z) ⟨0, 0, []⟩ [] ⟨#[]⟩ (.slice none 0 0) (.slice none 0 0) :=
  ⟨hl, fmt_has h1 h2 h3 h4, rfl, rfl, Nat.le_refl _, rfl, by rw [hm]; show _ = sec (List.replicate n (zs z)).length * z; rw [List.length_replicate], hbox, rfl, Rd.nil, Rd.nil, hq, Nat.le_refl _, fun x hx => (by cases hx), hold, hlow, hql⟩
/-- The calls that the law compares, in whatever world they are made. -/
structure Asks (W : World) (k : Wk) (pb : Nat) (q : Value) (r n h : Nat) : Prop where
  room : Calls Tryd.prog 18 #[ptr k.pw] W fun e w' => e = .returned (.int .i64 r) ∧ Below W.heap.size W w'
  rroom : Calls Tryd.prog 19 #[q] W fun e w' => e = .returned (.int .i64 r) ∧ Below W.heap.size W w'
  waiting : Calls Tryd.prog 20 #[ptr k.pw] W fun e w' => e = .returned (.int .i64 n) ∧ Below W.heap.size W w'
  half : Calls Tryd.prog 21 #[ptr k.pw] W fun e w' => e = .returned (.int .i64 h) ∧ Below W.heap.size W w'
  stands : Calls Tryd.prog 22 #[ptr pb, q] W fun e w' => e = .returned (.bool true) ∧ Below W.heap.size W w'
theorem calls_below {P : Program} {f : FuncId} {args : Array Value} {w : World} {v : Value} (h : Calls P f args w fun e w' => e = .returned v ∧ w' = w) : Calls P f args w fun e w' => e = .returned v ∧ Below w.heap.size w w' :=
  h.mono fun _ _ ⟨he, hw⟩ => ⟨he, hw ▸ Below.refl _ _⟩
theorem PlaysAt.asks {W0 wr : World} {pb qb m j : Nat} {k : Wk} {S : St} {L : Wl} {gs : List Grp} {s : ByteArray} {tv wv : Value} (h : PlaysAt W0 pb qb m j wr k S L gs s tv wv) {W : World} (hb : Below wr.heap.size wr W) :
    Asks W k pb (.agg (qC m L.half s tv wv S.full)) (m - s.size - 1) L.wait.length L.half := by
  have h2 := h.below hb
  have hsz := h.sizes
  obtain ⟨ta, tc, rfl⟩ := h.tvR.1.form
  obtain ⟨wa, wc, rfl⟩ := h.wvR.1.form
  refine ⟨(roomW h2.log (by rw [h.end_]; omega)).mono fun e w' hh => ?_, refRoom_any m L.half s ta wa gs.flatten.length tc L.wait.length wc S.full W m rfl (by omega) (by omega), calls_below (waitingW h2.log), calls_below (halfW h2.log), ?_⟩
  · obtain ⟨rfl, hd⟩ := hh
    refine ⟨?_, below_of_drew hd⟩
    show Ending.returned (.int .i64 ((sec S.dur.length * S.z - L.at_ - 1 : Nat) : Int)) = _
    rw [h.end_, ← h.mm, hsz.1]
  · rw [← h.pb]
    exact stands_any m L.half s ta wa gs.flatten.length tc L.wait.length wc S.full gs h2.log.disk h.has h.bs
/-- The box, in whatever world. -/
theorem PlaysAt.boxIn {W0 wr : World} {pb qb m j : Nat} {k : Wk} {S : St} {L : Wl} {gs : List Grp} {s : ByteArray} {tv wv : Value} (h : PlaysAt W0 pb qb m j wr k S L gs s tv wv) {W : World} (hb : Below wr.heap.size wr W) :
    Lies W qb (qC m L.half s tv wv S.full) qT := h.box.same (hb.block _ h.box.lt)
theorem range_lies {W : World} {b : Nat} {cs : Array Value} {t : TypeId} (h : Lies W b cs t) : W.rangeAt b 0 cs.toList := fun i v hv => by
  rw [Nat.zero_add, h.cell]
  simpa using hv
end Go.Proofs.YtldmplfgnpepjaaDoor.Wal

/-
  What the walk of WalPlays rests on: a text more that waits, beside a log; Drop; the texts as one frame.
-/
namespace Go.Proofs.YtldmplfgnpepjaaDoor.Wal
open Go Go.RowKit
open Go.Proofs.YtldmplfgnpepjaaDoor.Disk
open Go.Proofs.YtldmplfgnpepjaaDoor.Nets (Reads Tab Small bl ba)

theorem Rd.form3 {F : Nat → Prop} {w : World} {v : Value} {ss : List ByteArray} (h : Rd F w v ss) : ∃ a n c, v = .slice a n c ∧ n = ss.length := by
  obtain ⟨a, c, e⟩ := h.1.form
  exact ⟨a, _, c, e, rfl⟩
theorem lies_drew {W : World} {b : Nat} {cs : Array Value} {t : TypeId} (h : Lies W b cs t) : Lies W.drew b cs t := h
theorem lies_alloc {W : World} {o : Obj} {b : Nat} {cs : Array Value} {t : TypeId} (h : Lies W b cs t) : Lies (W.alloc o) b cs t := h.same (Below.heap_alloc _ _ _ h.lt)
theorem lies_new {W : World} {b : Nat} {cs : Array Value} {t : TypeId} (h : W.heap.size = b) : Lies (W.alloc (.cells cs t)) b cs t := h ▸ Lies.new W cs t
/-- A list copied into the empty list in block g. -/
structure Copied (w2 : World) (g : Nat) (ws : List ByteArray) (v : Value) (W W' : World) : Prop where
  own : W'.ownsRow w2.heap.size strT 1 v ws.length (ws.map Value.string)
  below : Below w2.heap.size w2 W'
  far : ∀ b, b ≠ g → b < W.heap.size → W'.heap[b]? = W.heap[b]?
  size : W.heap.size ≤ W'.heap.size
theorem Copied.lies {w2 : World} {g : Nat} {ws : List ByteArray} {v : Value} {W W' : World} (h : Copied w2 g ws v W W') {b : Nat} {cs : Array Value} {t : TypeId} (hl : Lies W b cs t) (hb : b ≠ g) : Lies W' b cs t := hl.same (h.far b hb hl.lt)
theorem step_copy {ops : Array Oper} {o : Oper} {a : Act} {W : World} {K : Act → World → Prop} {Q : Exit → Act → World → Prop} {E : Prop} (w2 : World) (g : Nat) (wv : Value) (ws : List ByteArray) (hr : Reads w2 wv ws) (hlen : ws.length ≤ 1000000)
    (hg : o.guard = none) (s x : Operand) (hop : o.op = Op.call { callee := Callee.builtin Builtin.append, args := #[s, x], argTypes := #[26, 26] }) (hty : o.type = 26)
    (hs : a.eval s = .slice (some ⟨g, 0, none⟩) 0 0) (hx : a.eval x = wv) (hb : Below w2.heap.size w2 W) (hl : Lies W g #[] strT) (hge : w2.heap.size ≤ g)
    (hK : ∀ v' W', Copied w2 g ws v' W W' → K (a.put o.dst v') W') : if Region.wanted o (yielded ops a.tmps) = true then Oper.wp Tryd.prog o a W K Q else E := by
  have h0 : W.ownsRow w2.heap.size strT 1 (.slice (some ⟨g, 0, none⟩) 0 0) ([] : List ByteArray).length (([] : List ByteArray).map Value.string) :=
    ⟨by simp, .inr ⟨g, 0, #[], rfl, hge, hl, Nat.le_refl _, by decide, by simp, by simp⟩⟩
  obtain ⟨v', W', h1, h2, h3, h4⟩ := append_texts W w2.heap.size _ wv [] ws h0 (hr.below hb) (by simp) hlen hb.size
  refine step_append_run hg s x _ hop _ _ _ hs hx (by rw [hty]; exact h1) (hK v' W' ⟨by simpa using h2, hb.grown h3 hb.size (fun k hk => (h0.lt k hk).1), fun b hb hlt => ?_, ?_⟩)
  · exact ((Fr.refl (fun k => k = g) W).grown h3 (fun k hk _ => by simpa [Value.ownBlock, eq_comm] using hk)).block b hlt hb
  · exact ((Fr.refl (fun k => k = g) W).grown h3 (fun k hk _ => by simpa [Value.ownBlock, eq_comm] using hk)).size
theorem step_more {ops : Array Oper} {o : Oper} {a : Act} {W : World} {K : Act → World → Prop} {Q : Exit → Act → World → Prop} {E : Prop} (w2 : World) (g : Nat) (v : Value) (ws : List ByteArray) (y : ByteArray) (hlen : ws.length ≤ 1000000)
    (hg : o.guard = none) (s x : Operand) (hop : o.op = Op.call { callee := Callee.builtin Builtin.append, args := #[s, x], argTypes := #[26, 26] }) (hty : o.type = 26)
    (hs : a.eval s = v) (hx : a.eval x = .slice (some ⟨g, 0, none⟩) 1 1) (hb : Below w2.heap.size w2 W) (ho : W.ownsRow w2.heap.size strT 1 v ws.length (ws.map Value.string)) (hl : Lies W g #[.string y] strT)
    (hK : ∀ e n c W', W'.ownsRow w2.heap.size strT 1 (.slice e n c) (ws ++ [y]).length ((ws ++ [y]).map Value.string) → Below w2.heap.size w2 W' → K (a.put o.dst (.slice e n c)) W') : if Region.wanted o (yielded ops a.tmps) = true then Oper.wp Tryd.prog o a W K Q else E := by
  obtain ⟨v', W', h1, h2, h3, h4⟩ := append_texts W w2.heap.size v _ ws [y] ho (reads_one hl) hlen (by simp) hb.size
  have h5 : ∃ e n c, v' = .slice e n c := by
    rcases h2.2 with ⟨_, h0⟩ | ⟨g', c, cur, rfl, _⟩
    · simp at h0
    · exact ⟨_, _, _, rfl⟩
  obtain ⟨e, n, c, rfl⟩ := h5
  exact step_append_run hg s x _ hop _ _ _ hs hx (by rw [hty]; exact h1) (hK _ _ _ W' h2 (hb.grown h3 hb.size (fun k hk => (ho.lt k hk).1)))
theorem pay_app (a b : List ByteArray) : payS (a ++ b) = payS a ++ payS b := by simp [payS, Nets.rowS]
theorem pay_flat : ∀ gs : List Grp, (payS gs.flatten).length ≤ (framesS gs).length
  | [] => by simp [payS, Nets.rowS]
  | g :: gs => by
    have h := pay_flat gs
    have h2 := frame_len 1 g
    rw [frames_cons, List.length_append, List.flatten_cons, pay_app, List.length_append]
    omega
section
variable {W0 wr : World} {pb qb m j : Nat} {k : Wk} {S : St} {L : Wl} {gs : List Grp} {s : ByteArray} {tv wv : Value}
theorem PlaysAt.smallT (h : PlaysAt W0 pb qb m j wr k S L gs s tv wv) : Small gs.flatten ∧ (payS gs.flatten).length ≤ 100000 :=
  ⟨⟨h.has.flat.1, fun x hx => by have := h.has.flat.2.2 x hx; omega⟩, by have := pay_flat gs; have := h.has.flat.2.1; omega⟩
theorem PlaysAt.smallW (h : PlaysAt W0 pb qb m j wr k S L gs s tv wv) (hj : j ≤ 40) : Small L.wait ∧ L.wait.length ≤ 45 ∧ ∀ x ∈ L.wait, x.size ≤ 2000 :=
  ⟨⟨by have := h.few; omega, fun x hx => by have := h.small x hx; omega⟩, by have := h.few; omega, fun x hx => by have := h.small x hx; omega⟩
theorem PlaysAt.oldM (h : PlaysAt W0 pb qb m j wr k S L gs s tv wv) {w2 : World} {k2 : Wk} (mv : Mv wr k w2 k2) : Below W0.heap.size W0 w2 :=
  h.old.trans (mv.fr.below h.old.size fun _ hb => Nat.le_trans h.low (h.log.own_lt hb).2)
theorem PlaysAt.rdT (h : PlaysAt W0 pb qb m j wr k S L gs s tv wv) {w2 : World} {k2 : Wk} (mv : Mv wr k w2 k2) : Reads w2 tv gs.flatten ∧ Reads w2 wv L.wait :=
  ⟨(h.rd mv (Fr.refl _ w2) h.tvR).1, (h.rd mv (Fr.refl _ w2) h.wvR).1⟩
theorem Mv.of_below (w : World) (k : Wk) {w' : World} (hb : Below w.heap.size w w') : Mv w k w' k := (StepW.of_below k hb).mv
theorem Mv.on {w w2 w3 : World} {k k2 : Wk} (h : Mv w k w2 k2) (hb : Below w2.heap.size w2 w3) : Mv w k w3 k2 :=
  ⟨h.fr.trans (Fr.of_below (F := ownW k) hb) fun _ _ e => e, h.B, h.pb, h.own⟩
/-- Drop, in whatever world. -/
theorem PlaysAt.drop (h : PlaysAt W0 pb qb m j wr k S L gs s tv wv) {W : World} (hb : Below wr.heap.size wr W) :
    Calls Tryd.prog 14 #[ptr k.pw] W fun e w' => e = .returned (.int .i64 L.wait.length) ∧ ∃ k2, Log w' k2 S { L with wait := [] } ∧ Mv wr k w' k2 ∧ k2.pw = k.pw := by
  refine (dropW (h.log.below hb)).mono fun e w' hh => ?_
  obtain ⟨rfl, k2, hl, hst⟩ := hh
  exact ⟨rfl, k2, hl, ((StepW.of_below k hb).trans hst).mv, hst.pw⟩
/-- The texts, as Need and the document's Frame have them. -/
theorem PlaysAt.need (h : PlaysAt W0 pb qb m j wr k S L gs s tv wv) (ht : Tab W0) {W : World} (hb : Below wr.heap.size wr W) :
    Calls Tryd.prog 23 #[tv] W fun e w' => e = .returned (.int .i64 (ba (frameS 0 gs.flatten)).size) ∧ Below W.heap.size W w' := by
  have hlen : (ba (frameS 0 gs.flatten)).size = 9 + (payS gs.flatten).length := by rw [← bl_len, Nets.bl_ba, frame_len]
  rw [hlen]
  exact needW (h.tvR.1.below hb) h.smallT.1 (ht.below (h.old.trans (hb.mono h.old.size)))
theorem PlaysAt.frame0 (h : PlaysAt W0 pb qb m j wr k S L gs s tv wv) {W : World} (hb : Below wr.heap.size wr W) :
    Calls Tryd.prog 24 #[.int .u8 0, tv] W fun e w' => e = .returned (.string (ba (frameS 0 gs.flatten))) ∧ Below W.heap.size W w' := by
  refine (refFrame_any 0 (by omega) (h.tvR.1.below hb) h.smallT.1 h.smallT.2).mono fun e w' hh => ?_
  obtain ⟨F, rfl, hF, hb2⟩ := hh
  refine ⟨?_, hb2⟩
  have e0 : frameS 0 gs.flatten = bl F := hF.symm
  rw [e0]
end
end Go.Proofs.YtldmplfgnpepjaaDoor.Wal

/-
  Walks of the law WalPlays: both logs do the same.
-/
namespace Go.Proofs.YtldmplfgnpepjaaDoor.Wal
open Go Go.RowKit
open Go.Proofs.YtldmplfgnpepjaaDoor.Disk
open Go.Proofs.YtldmplfgnpepjaaDoor.Nets (Reads Tab Small bl ba)
open Go.Proofs.YtldmplfgnpepjaaDoor.Sha (Kept wp_region_kept quiet_load_arr)

set_option maxRecDepth 100000 in
set_option maxHeartbeats 4000000 in
theorem walPlays_any (g0 g1 : Int) (v : Value) (es : List Ak) (w : World) (h : ReadsA w v es) (ho : ∀ e ∈ es, OkA w e) (hm : es.length ≤ 9223372036854775807) (ht : Tab w)
    (hg1 : -9223372036854775808 ≤ g0 ∧ g0 ≤ 9223372036854775807) (hg2 : -9223372036854775808 ≤ g1 ∧ g1 ≤ 9223372036854775807) :
    Calls Tryd.prog 3 #[.agg #[.int .i64 g0, .int .i64 g1], v] w fun e w' => e = .returned (.bool true) ∧ Below w.heap.size w w' := by
  obtain ⟨va, cap, rfl, -⟩ := h.shape
  have hbx : Below w.heap.size w (w.alloc (.cells #[.int .i64 g0, .int .i64 g1] 22)) := (Below.refl _ _).alloc (Nat.le_refl _) _
  have h0 := h.below hbx
  have ho0 : ∀ e ∈ es, OkA (w.alloc (.cells #[.int .i64 g0, .int .i64 g1] 22)) e := fun e he => (ho e he).below hbx
  have H0 := Lib.hid (And.intro h0 (And.intro ho0 (And.intro (ht.below hbx) hbx)))
  have HMD := Lib.hid (fun W => made_any g0 g1 W hg1.1 hg1.2 hg2.1 hg2.2)
  have hsh : ∀ (W0 : World) (e : Ak), OkA W0 e → ∀ b, e.lv.ownBlock = some b → 0 < e.ls.length → b < W0.heap.size := fun _ _ ha => ha.lt
  clear h ho ht hbx hg1 hg2 h0 ho0 hsh
  go_enter Tryd.func3, Tryd.ntmps3
  go_wp2_with fail
  generalize w.alloc (.cells #[.int .i64 g0, .int .i64 g1] 22) = W0 at *
  refine (HMD.out W0).mono ?_
  rintro e w2 ⟨k, n, z, m, rfl, hmm, h1, h2, h3, h4, hl, hB, hb2⟩
  have hbx : Below w2.heap.size w2 (w2.alloc (.cells (qC (m : Int) 0 ⟨#[]⟩ (.slice none 0 0) (.slice none 0 0) false) qT)) := (Below.refl _ _).alloc (Nat.le_refl _) _
  have hb2' := hb2.trans (hbx.mono hb2.size)
  have hst := PlaysAt.start (W0 := W0) (m := m) (hl.below hbx) h1 h2 h3 h4 (Lies.new w2 (qC (m : Int) 0 ⟨#[]⟩ (.slice none 0 0) (.slice none 0 0) false) qT) (fun e => by have := (hl.own_lt e).1; omega) hb2' hB hb2.size hmm
  have HST := Lib.hid hst
  have hli := lights_any (.slice va es.length cap) es _ (H0.out.1.below hb2') (fun e he => (H0.out.2.1 e he).below hb2') hm
  have HLI := Lib.hid hli
  have HB2 := Lib.hid hb2'
  clear hmm h1 h2 h3 h4 hl hB hb2 hbx hb2' hli HMD hst
  by_cases hls : lightS es = true
  · rw [hls] at HLI
    go_wp2_with fail
    generalize w2.alloc (.cells (qC (m : Int) 0 ⟨#[]⟩ (.slice none 0 0) (.slice none 0 0) false) qT) = W2 at *
    generalize w2.heap.size = qb at *
    refine HLI.out.mono ?_
    rintro e w3 ⟨rfl, rfl⟩
    have HLS := Lib.hid hls
    obtain ⟨va2, cap2, hva, hsh⟩ := H0.out.1.shape
    injection hva with hv1 hv2 hv3
    subst hv1 hv3
    have HL := Lib.hid hsh
    clear HLI hls hv2 hsh HB2
    go_wp2_with fail
    go_loopw [5, 8, 9, 10, 11, 12, 13, 14, 70, 85, 94, 107, 116] (fun pw i _ _ _ _ _ _ _ _ _ _ _ wr => ∃ (j : Nat) (k' : Wk) (S' : St) (L' : Wl) (gs' : List Grp) (s' : ByteArray) (tv' wv' : Value), j ≤ es.length ∧ j ≤ 40 ∧ pw = ptr k'.pw ∧ i = .int .i64 j ∧ PlaysAt W0 k.d.pb qb m j wr k' S' L' gs' s' tv' wv') (fun _ i _ _ _ _ _ _ _ _ _ _ _ _ => es.length - (intOf i).toNat)
    case atStart => exact ⟨0, k, _, _, [], _, _, _, Nat.zero_le _, by omega, rfl, rfl, HST.out⟩
    case round =>
      obtain ⟨j, k', S', L', gs', s', tv', wv', hj, hj40, rfl, rfl, hM⟩ := hrel
      have HM := Lib.hid hM
      clear hM HST
      by_cases hlt : j < es.length ∧ j < 40
      · obtain ⟨a, ha⟩ : ∃ a, es[j]? = some a := ⟨es[j], List.getElem?_eq_getElem hlt.1⟩
        obtain ⟨b, of, rfl, hbl, hra⟩ := HL.out (by omega)
        have h1 := hlt.1
        have h2 := hlt.2
        have hbw := HM.out.old
        have hoa := (H0.out.2.1 a (List.mem_of_getElem? ha)).below hbw
        have hol := H0.out.2.1 a (List.mem_of_getElem? ha)
        obtain ⟨l1, l2, l3⟩ := lightS_at HLS.out ha h2
        obtain ⟨x0, x1, x2, x3⟩ := four (range_below (hra j a ha) hbl hbw)
        have hal : Below wr.heap.size wr (wr.alloc (.cells #[.int .i64 a.kind, .string a.s, a.lv, .bool a.is] akT)) := (Below.refl _ _).alloc (Nat.le_refl _) _
        have hbox : Lies (wr.alloc (.cells #[.int .i64 a.kind, .string a.s, a.lv, .bool a.is] akT)) wr.heap.size #[.int .i64 a.kind, .string a.s, a.lv, .bool a.is] akT := Lies.new _ _ _
        have HRW := Lib.hid (HM.out.below hal)
        have HBX := Lib.hid (And.intro hbox (And.intro (show ∀ b, ownW k' b → b < wr.heap.size from fun b hb => (HM.out.log.own_lt hb).1) (show qb < wr.heap.size from HM.out.box.lt)))
        have HA := Lib.hid (And.intro (hoa.below hal) (And.intro hol (And.intro l1 (And.intro l2 l3))))
        have HP := Lib.hid (HM.out.pb)
        clear hlt ha hra hbw hoa hol l1 l2 l3 hal hbox
        obtain ⟨kind, s, lv, ls, is⟩ := a
        simp only at x0 x1 x2 x3 HRW HBX HA
        obtain ⟨la, lc, hlv⟩ := HA.out.1.reads.form
        have hlv2 : lv = .slice la ls.length lc := hlv
        subst hlv2
        clear hlv
        obtain ⟨ta, tn, tc, htv, htn⟩ := HM.out.tvR.form3
        obtain ⟨wa, wn, wc, hwv, hwn⟩ := HM.out.wvR.form3
        subst htv hwv
        have HN := Lib.hid (And.intro htn hwn)
        clear htn hwn
        have y0 : (wr.alloc (.cells #[.int .i64 kind, .string s, .slice la ls.length lc, .bool is] akT)).cell? ⟨wr.heap.size, 0, none⟩ = some (.int .i64 kind) := HBX.out.1.cell 0
        have y1 : (wr.alloc (.cells #[.int .i64 kind, .string s, .slice la ls.length lc, .bool is] akT)).cell? ⟨wr.heap.size, 1, none⟩ = some (.string s) := HBX.out.1.cell 1
        have y2 : (wr.alloc (.cells #[.int .i64 kind, .string s, .slice la ls.length lc, .bool is] akT)).cell? ⟨wr.heap.size, 2, none⟩ = some (.slice la ls.length lc) := HBX.out.1.cell 2
        have y3 : (wr.alloc (.cells #[.int .i64 kind, .string s, .slice la ls.length lc, .bool is] akT)).cell? ⟨wr.heap.size, 3, none⟩ = some (.bool is) := HBX.out.1.cell 3
        go_upto_block 2 with (fail)
        generalize wr.alloc (.cells #[.int .i64 kind, .string s, .slice la ls.length lc, .bool is] 34) = W4 at *
        clear x0 x1 x2 x3
        go_cut [5, 10, 11, 12, 13, 14] from 33 to 155 (fun pw e c _ _ _ wx => ∃ (k2 : Wk) (S2 : St) (L2 : Wl) (gs2 : List Grp) (s2 : ByteArray) (tv2 wv2 : Value) (x : Int), pw = ptr k2.pw ∧ e = .int .i64 x ∧ c = .int .i64 x ∧ PlaysAt W0 k.d.pb qb m (j + 1) wx k2 S2 L2 gs2 s2 tv2 wv2)
        case first =>
          rcases (show kind = 0 ∨ kind = 1 ∨ kind = 2 ∨ kind = 3 ∨ kind = 4 ∨ (kind ≠ 0 ∧ kind ≠ 1 ∧ kind ≠ 2 ∧ kind ≠ 3 ∧ kind ≠ 4) by omega) with rfl | rfl | rfl | rfl | rfl | ⟨k0, k1, k2, k3, k4⟩
          · have hap := appendW HRW.out.log s (by have := HRW.out.few; omega)
            have HAP := Lib.hid hap
            clear hap
            go_wp2_with fail
            clear y0 y1 y2 y3
            refine HAP.out.mono ?_
            rintro e w2 ⟨rfl, k2, hl2, hst2⟩
            have hx := HBX.out.1.same (hst2.fr.block _ HBX.out.1.lt fun e => by have := HBX.out.2.1 _ e; omega)
            have hbq := HRW.out.boxAt hst2.mv
            have HS := Lib.hid (fun (W : World) (hb : Below w2.heap.size w2 W) => (hx.same (hb.block _ hx.lt)).cell 1)
            have HPW := Lib.hid (hst2.pw)
            have HQ := Lib.hid (fun (W : World) (hb : Below w2.heap.size w2 W) => (hbq.1.same (hb.block _ hbq.2)))
            have x1 : w2.cell? ⟨wr.heap.size, 1, none⟩ = some (.string s) := HS.out _ (Below.refl _ _)
            have q4 : w2.cell? ⟨qb, 4, none⟩ = some (.slice wa wn wc) := (HQ.out _ (Below.refl _ _)).cell 4
            have x1a : ∀ o, (w2.alloc o).cell? ⟨wr.heap.size, 1, none⟩ = some (.string s) := fun o => HS.out _ (bel_alloc (Below.refl _ _))
            have q4a : ∀ o, (w2.alloc o).cell? ⟨qb, 4, none⟩ = some (.slice wa wn wc) := fun o => (HQ.out _ (bel_alloc (Below.refl _ _))).cell 4
            have q4b : ∀ o o', ((w2.alloc o).alloc o').cell? ⟨qb, 4, none⟩ = some (.slice wa wn wc) := fun o o' => (HQ.out _ (bel_alloc (bel_alloc (Below.refl _ _)))).cell 4
            have HRD := Lib.hid ((HRW.out.rdT hst2.mv).2)
            have HLN := Lib.hid (show L'.wait.length ≤ 1000000 by have := HRW.out.few; omega)
            have HFIN := Lib.hid (fun (w4 : World) (v : Value) (hb : Below w2.heap.size w2 w4) (ho : w4.ownsRow w2.heap.size strT 1 v (L'.wait ++ [s]).length ((L'.wait ++ [s]).map Value.string)) => HRW.out.appended (HA.out.2.2.1) hl2 hst2.mv hb ho rfl)
            clear hl2 hst2 hx hbq HAP
            generalize hab : wr.heap.size = ab at *
            clear hab
            go_upto_region 17 with (fail)
            go_region_law (first
              | (refine step_copy w2 _ (.slice wa wn wc) L'.wait HRD.out HLN.out (by rfl) _ _ (by rfl) (by rfl) (by rfl) (by rfl) (by (repeat (first | exact Below.refl _ _ | exact hmb | exact hcp.below | with_reducible refine bel_alloc ?_ | with_reducible refine bel_drew ?_))) (by (repeat (first | (exact lies_new (by simp)) | with_reducible refine lies_alloc ?_ | with_reducible refine lies_drew ?_ | refine Copied.lies hcp ?_ (by simp)))) (by first | omega | simp) ?_; intro v1 W1 hcp; have x1z := HS.out _ hcp.below)
              | (refine step_more w2 _ v1 L'.wait s HLN.out (by rfl) _ _ (by rfl) (by rfl) (by rfl) (by rfl) (by (repeat (first | exact Below.refl _ _ | exact hmb | exact hcp.below | with_reducible refine bel_alloc ?_ | with_reducible refine bel_drew ?_))) (by first | exact hcp.own | exact Nets.owns_below hcp.own (by (repeat (first | exact Below.refl _ _ | exact hmb | exact hcp.below | with_reducible refine bel_alloc ?_ | with_reducible refine bel_drew ?_)))) (by (repeat (first | (exact lies_new (by simp)) | with_reducible refine lies_alloc ?_ | with_reducible refine lies_drew ?_ | refine Copied.lies hcp ?_ (by simp)))) ?_; intro va2 vn2 vc2 W2 ho2 hmb; have q4z := (HQ.out _ hmb).cell 4; have f4z := (HQ.out _ hmb).free 4))
            all_goals
              go_wp2_with fail
              go_meet
              exact ⟨k2, S', _, gs', s', _, _, 0, by rw [HPW.out], rfl, rfl, HFIN.out _ _ hmb ho2⟩
          · have hsy := syncW HRW.out.log gs' HM.out.has HM.out.end_ (HRW.out.smallW (by omega)).1 (H0.out.2.2.1.below HRW.out.old) (by unfold Grd; have := H0.out.2.2.1.2; have := HM.out.low; omega) (by have := HM.out.ops; omega)
            have HSY := Lib.hid hsy
            clear hsy
            go_wp2_with fail
            clear y0 y1 y2 y3
            refine HSY.out.mono ?_
            rintro e w2 ⟨S2, L2, x, rfl, hso, hki, k2, hl2, hst2⟩
            have hbq := HRW.out.boxAt hst2.mv
            obtain ⟨b0, b1, b2, b3, b4, b5⟩ := six hbq.1
            have hsz := HRW.out.sizes
            have hsw := HRW.out.smallW (by omega)
            have hrs := refSync_any m L'.half s' (.slice ta tn tc) (.slice wa wn wc) S'.full gs'.flatten L'.wait w2 (HRW.out.rdT hst2.mv).1 (HRW.out.rdT hst2.mv).2 (by omega) (by omega) (by have := HRW.out.has.flat.1; omega) hsw.2.2 hsw.2.1
            have HRS := Lib.hid hrs
            have HN2 := Lib.hid (fun (w4 : World) (s2 : ByteArray) (tv2 : Value) (c : Int) (hr : RSync w2 m s' _ S'.full gs'.flatten L'.wait w4 s2 tv2 c) (hb : Below w2.heap.size w2 w4) => HRW.out.synced hl2 hst2.mv hso hki hr hb)
            have HQ := Lib.hid (fun (w4 : World) (hb : Below w2.heap.size w2 w4) => hbq.1.same (hb.block _ hbq.2))
            have HPW := Lib.hid hst2.pw
            clear hso hki hl2 hst2 hbq hsz hsw hrs HSY
            go_wp2_with fail
            refine HRS.out.mono ?_
            rintro e w4 ⟨s2, tv2, c, rfl, hr, hb⟩
            obtain ⟨hxc, gs2, hn⟩ := HN2.out w4 s2 tv2 c hr hb
            subst hxc
            have hq4 := HQ.out w4 hb
            obtain ⟨ta2, tn2, tc2, htv2, -⟩ := hn.tvR.form3
            subst htv2
            have HR2 := Lib.hid hn
            clear hr hb hn b0 b1 b2 b3 b4 b5 HN2 HRS HQ
            obtain ⟨z0, z1, z2, z3, z4, z5⟩ := six hq4
            have zf := fun j => hq4.free j
            clear hq4
            go_wp2_with fail
            go_meet
            exact ⟨k2, S2, L2, gs2, s2, _, _, x, by rw [HPW.out], rfl, rfl, HR2.out⟩
          · have l2 : ls.length ≤ 20 := HA.out.2.2.2.1
            have hrs := resetW HRW.out.log gs' HM.out.has HA.out.1.reads ⟨(by show ls.length ≤ _; omega), fun s hs => by have := HA.out.2.2.2.2 s hs; omega⟩ (H0.out.2.2.1.below HRW.out.old) (by have := HM.out.ops; omega)
            have HRE := Lib.hid hrs
            clear hrs
            go_wp2_with fail
            clear y0 y1 y2 y3
            refine HRE.out.mono ?_
            rintro e w2 ⟨S2, L2, x, rfl, hso, hki, k2, hl2, hst2⟩
            have hbq := HRW.out.boxAt hst2.mv
            obtain ⟨b0, b1, b2, b3, b4, b5⟩ := six hbq.1
            have hsz := HRW.out.sizes
            have hx := HBX.out.1.same (hst2.fr.block _ HBX.out.1.lt fun e => by have := HBX.out.2.1 _ e; omega)
            have x2 : w2.cell? ⟨wr.heap.size, 2, none⟩ = some (.slice la ls.length lc) := hx.cell 2
            have hrs := refReset_any m L'.half s' ta wa tn tc wn wc (.slice la ls.length lc) S'.full ls w2 (HA.out.2.1.reads.below (HRW.out.oldM hst2.mv)) (by omega) (by omega) (by omega) HM.out.has.lg.half (fun x hx => by have := HA.out.2.2.2.2 x hx; omega) (by omega)
            have HRS := Lib.hid hrs
            have HN2 := Lib.hid (fun (w4 : World) (h2 : Nat) (s2 : ByteArray) (tv2 : Value) (c : Int) (hr : RReset m L'.half s' (.slice ta tn tc) (.slice la ls.length lc) S'.full ls h2 s2 tv2 c) (hb : Below w2.heap.size w2 w4) => HRW.out.resetted hl2 hst2.mv hso hki hr hb HA.out.2.1.reads)
            have HQ := Lib.hid (fun (w4 : World) (hb : Below w2.heap.size w2 w4) => hbq.1.same (hb.block _ hbq.2))
            have HPW := Lib.hid hst2.pw
            clear hso hki hl2 hst2 hbq hsz hrs HRE hx
            go_wp2_with fail
            refine HRS.out.mono ?_
            rintro e w4 ⟨h3, s2, tv2, c, rfl, hr, hb⟩
            obtain ⟨hxc, gs2, hn⟩ := HN2.out w4 h3 s2 tv2 c hr hb
            subst hxc
            have hq4 := HQ.out w4 hb
            obtain ⟨ta2, tn2, tc2, htv2, -⟩ := hn.tvR.form3
            subst htv2
            have HR2 := Lib.hid hn
            clear hr hb hn b0 b1 b2 b3 b4 b5 x2 HN2 HRS HQ
            obtain ⟨z0, z1, z2, z3, z4, z5⟩ := six hq4
            have zf := fun j => hq4.free j
            clear hq4
            go_wp2_with fail
            go_meet
            exact ⟨k2, S2, L2, gs2, s2, _, _, x, by rw [HPW.out], rfl, rfl, HR2.out⟩
          · have hwn := HN.out.2
            clear HN
            subst hwn
            have HDR := Lib.hid (fun (W : World) (hb : Below W4.heap.size W4 W) => HRW.out.drop hb)
            have HKC := Lib.hid (fun (w2 : World) (k2 : Wk) (mv : Mv W4 k' w2 k2) => ((HRW.out.boxAt mv).1.cell 4 : w2.cell? ⟨qb, 4, none⟩ = some (.slice wa L'.wait.length wc)))
            have q4 : W4.cell? ⟨qb, 4, none⟩ = some (.slice wa L'.wait.length wc) := HRW.out.box.cell 4
            go_upto_region 25 with (fail)
            go_cut [114] from 33 to 155 (fun x wx => x = .bool false ∧ ∃ k2, Log wx k2 S' { L' with wait := [] } ∧ Mv W4 k' wx k2 ∧ k2.pw = k'.pw)
            case first =>
              go_region_with (go_at_call 14; (with_reducible refine (HDR.out _ (by (repeat (first | exact Below.refl _ _ | with_reducible refine bel_alloc ?_ | with_reducible refine bel_drew ?_)))).mono ?_); rintro e w2 ⟨rfl, k2, hl2, hmv, hpw⟩; have q4z := HKC.out _ _ hmv)
              all_goals
                go_wp2_with fail
                go_meet
                exact ⟨by simp, k2, hl2.below (by (repeat (first | exact Below.refl _ _ | with_reducible refine bel_alloc ?_ | with_reducible refine bel_drew ?_))), hmv.on (by (repeat (first | exact Below.refl _ _ | with_reducible refine bel_alloc ?_ | with_reducible refine bel_drew ?_))), hpw⟩
            case rest =>
              obtain ⟨rfl, k2, hl2, hmv, hpw⟩ := hcut
              have hq := (HRW.out.boxAt hmv).1
              have z4 := hq.cell 4
              have f4 := hq.free 4
              have HR2 := Lib.hid (HRW.out.dropped hl2 hmv)
              have HPW := Lib.hid hpw
              clear hl2 hmv hpw hq q4 HDR HKC y0 y1 y2 y3
              go_wp2_with fail
              go_meet
              exact ⟨k2, S', _, gs', s', _, _, 0, by rw [HPW.out], rfl, rfl, HR2.out⟩
          · have hfi := fillW HRW.out.log is
            rw [HP.out] at hfi
            have HFI := Lib.hid hfi
            clear hfi
            go_wp2_with fail
            clear y0 y1 y2 y3
            refine HFI.out.mono ?_
            rintro e w2 ⟨rfl, k2, hl2, hst2⟩
            have hx := HBX.out.1.same (hst2.fr.block _ HBX.out.1.lt fun e => by have := HBX.out.2.1 _ e; omega)
            have x3 : w2.cell? ⟨wr.heap.size, 3, none⟩ = some (.bool is) := hx.cell 3
            have hq := (HRW.out.boxAt hst2.mv).1
            have z5 := hq.cell 5
            have f5 := hq.free 5
            have HR2 := Lib.hid (HRW.out.filled (b := is) hl2 hst2.mv)
            have HPW := Lib.hid hst2.pw
            clear hl2 hst2 hx hq HFI
            go_wp2_with fail
            go_meet
            exact ⟨k2, _, L', gs', s', _, _, 0, by rw [HPW.out], rfl, rfl, HR2.out⟩
          · have e0 : (kind == 0) = false := by simp [k0]
            have e1 : (kind == 1) = false := by simp [k1]
            have e2 : (kind == 2) = false := by simp [k2]
            have e3 : (kind == 3) = false := by simp [k3]
            have e4 : (kind == 4) = false := by simp [k4]
            have hop := openW HRW.out.log.disk L'.half gs' HM.out.has
            rw [HP.out] at hop
            have HOP := Lib.hid hop
            clear hop
            go_wp2_with fail
            clear y0 y1 y2 y3
            refine HOP.out.mono ?_
            rintro e w2 ⟨k2, vv, rfl, hkd, hvo, hl2, -, hb2, -, hown2⟩
            have mv := HRW.out.open_mv hkd hb2 hown2
            have hbq := HRW.out.boxAt mv
            have q3 : w2.cell? ⟨qb, 3, none⟩ = some (.slice ta tn tc) := hbq.1.cell 3
            have hfl := HRW.out.has.flat.1
            have hsm := Nets.same_any vv (.slice ta tn tc) gs'.flatten gs'.flatten w2 (Nets.reads_owns hvo) (HRW.out.rdT mv).1 (by omega) (by omega)
            rw [decide_eq_true rfl] at hsm
            have HSM := Lib.hid hsm
            have HF2 := Lib.hid (fun (w3 : World) (hb3 : Below w2.heap.size w2 w3) => HRW.out.opened (hl2.below hb3) (mv.on hb3))
            have HQ := Lib.hid (fun (w4 : World) (hb : Below w2.heap.size w2 w4) => hbq.1.same (hb.block _ hbq.2))
            clear hkd hvo hl2 hb2 hown2 mv hbq hfl hsm HOP
            go_wp2_with fail
            refine HSM.out.mono ?_
            rintro e w3 ⟨rfl, hb3⟩
            have z4 := (HQ.out w3 hb3).cell 4
            have f4 := (HQ.out w3 hb3).free 4
            have HR2 := Lib.hid (HF2.out w3 hb3)
            clear hb3 HQ HF2 HSM q3
            go_wp2_with fail
            go_meet
            exact ⟨k2, S', _, gs', s', _, _, 0, rfl, rfl, rfl, HR2.out⟩
        case rest =>
          obtain ⟨k2, S2, L2, gs2, s2, tv2, wv2, x, rfl, rfl, rfl, hR⟩ := hcut
          have HR := Lib.hid hR
          clear hR HM HRW HBX HA HP HN
          go_wp2_with fail
          have HAS := Lib.hid (fun (W : World) (hb : Below wc.heap.size wc W) => HR.out.asks hb)
          obtain ⟨wa5, wc5, hwv5⟩ := HR.out.wvR.1.form
          have HC4 := Lib.hid (fun W (hb : Below wc.heap.size wc W) => (((HR.out.boxIn hb).cell 4).trans (congrArg some hwv5) : W.cell? ⟨qb, 4, none⟩ = some (.slice wa5 L2.wait.length wc5)))
          have HC1 := Lib.hid (fun W (hb : Below wc.heap.size wc W) => ((HR.out.boxIn hb).cell 1 : W.cell? ⟨qb, 1, none⟩ = some (.int .i64 L2.half)))
          have HCR := Lib.hid (fun W (hb : Below wc.heap.size wc W) => range_lies (HR.out.boxIn hb))
          clear hwv5 y0 y1 y2 y3
          refine wp_region_kept (by kernel_rfl) (by kernel_rfl) ?_
          repeat (go_big_quiet_step (first | exact fun _ => rfl | (intro hk; go_at_call 18; exact hk.call (HAS.out _ hk.below).room) | (intro hk; go_at_call 19; exact hk.call (HAS.out _ hk.below).rroom) | (intro hk; go_at_call 20; exact hk.call (HAS.out _ hk.below).waiting) | (intro hk; go_at_call 21; exact hk.call (HAS.out _ hk.below).half) | (intro hk; go_at_call 22; exact hk.call (HAS.out _ hk.below).stands)))
          go_big_quiet_want
          refine quiet_load_arr 28 (.tmp 7) rfl qb 0 rfl _ _ (fun W hk => HCR.out W hk.below) Tryd.underlying28 rfl sizeQ ?_
          go_simp
          go_big_quiet_on
          repeat (go_big_quiet_step (first | exact fun _ => rfl | (intro hk; go_at_call 18; exact hk.call (HAS.out _ hk.below).room) | (intro hk; go_at_call 19; exact hk.call (HAS.out _ hk.below).rroom) | (intro hk; go_at_call 20; exact hk.call (HAS.out _ hk.below).waiting) | (intro hk; go_at_call 21; exact hk.call (HAS.out _ hk.below).half) | (intro hk; go_at_call 22; exact hk.call (HAS.out _ hk.below).stands)))
          go_big_quiet_want
          refine quiet_load_sl 26 9 (.tmp 138) rfl ⟨qb, 4, none⟩ rfl _ (fun W hk => HC4.out W hk.below) Tryd.underlying26 ?_
          go_simp
          go_big_quiet_on
          repeat (go_big_quiet_step (first | exact fun _ => rfl | (intro hk; go_at_call 18; exact hk.call (HAS.out _ hk.below).room) | (intro hk; go_at_call 19; exact hk.call (HAS.out _ hk.below).rroom) | (intro hk; go_at_call 20; exact hk.call (HAS.out _ hk.below).waiting) | (intro hk; go_at_call 21; exact hk.call (HAS.out _ hk.below).half) | (intro hk; go_at_call 22; exact hk.call (HAS.out _ hk.below).stands)))
          go_big_quiet_want
          refine quiet_load_int 3 (.tmp 146) rfl ⟨qb, 1, none⟩ rfl _ _ (fun W hk => HC1.out W hk.below) Tryd.underlying3 ?_
          go_simp
          go_big_quiet_on
          repeat (go_big_quiet_step (first | exact fun _ => rfl | (intro hk; go_at_call 18; exact hk.call (HAS.out _ hk.below).room) | (intro hk; go_at_call 19; exact hk.call (HAS.out _ hk.below).rroom) | (intro hk; go_at_call 20; exact hk.call (HAS.out _ hk.below).waiting) | (intro hk; go_at_call 21; exact hk.call (HAS.out _ hk.below).half) | (intro hk; go_at_call 22; exact hk.call (HAS.out _ hk.below).stands)))
          go_big_quiet_want
          refine quiet_load_arr 28 (.tmp 7) rfl qb 0 rfl _ _ (fun W hk => HCR.out W hk.below) Tryd.underlying28 rfl sizeQ ?_
          go_simp
          go_big_quiet_on
          repeat (go_big_quiet_step (first | exact fun _ => rfl | (intro hk; go_at_call 18; exact hk.call (HAS.out _ hk.below).room) | (intro hk; go_at_call 19; exact hk.call (HAS.out _ hk.below).rroom) | (intro hk; go_at_call 20; exact hk.call (HAS.out _ hk.below).waiting) | (intro hk; go_at_call 21; exact hk.call (HAS.out _ hk.below).half) | (intro hk; go_at_call 22; exact hk.call (HAS.out _ hk.below).stands)))
          refine wpQuiet_nil ?_
          intro w3 hk3
          have HR3 := Lib.hid (HR.out.below hk3.below)
          clear hk3 HR HAS HC4 HC1 HCR
          go_wp2_with fail
          go_roundw
          case rel => exact ⟨j + 1, k2, S2, L2, gs2, s2, tv2, wv2, by omega, by omega, rfl, by simp, HR3.out⟩
          case measure => simp [intOf]; omega
      · have HND := Lib.hid (fun (W : World) (hb : Below wr.heap.size wr W) => HM.out.need H0.out.2.2.1 hb)
        have HFR := Lib.hid (fun (W : World) (hb : Below wr.heap.size wr W) => HM.out.frame0 hb)
        have HWK := Lib.hid (fun (W : World) (hb : Below wr.heap.size wr W) => works_any W (H0.out.2.2.1.below (HM.out.old.trans (hb.mono HM.out.old.size))))
        have HC3 := Lib.hid (fun W (hb : Below wr.heap.size wr W) => ((HM.out.boxIn hb).cell 3 : W.cell? ⟨qb, 3, none⟩ = some tv'))
        have HOL := Lib.hid (H0.out.2.2.2.trans (HM.out.old.mono H0.out.2.2.2.size))
        generalize ba (frameS 0 gs'.flatten) = F at *
        clear HM
        by_cases h40 : j < es.length
        · have h41 : ¬ j < 40 := by omega
          go_wp2_with fail
          refine wp_region_kept (by kernel_rfl) (by kernel_rfl) ?_
          repeat (go_big_quiet_step (first | exact fun _ => rfl | (intro hk; go_at_call 23; exact hk.call (HND.out _ hk.below)) | (intro hk; go_at_call 24; exact hk.call (HFR.out _ hk.below)) | (intro hk; go_at_call 8; exact hk.call (HWK.out _ hk.below))))
          go_big_quiet_want
          refine quiet_load_sl 26 9 (.tmp 156) rfl ⟨qb, 3, none⟩ rfl _ (fun W hk => HC3.out W hk.below) Tryd.underlying26 ?_
          go_simp
          go_big_quiet_on
          repeat (go_big_quiet_step (first | exact fun _ => rfl | (intro hk; go_at_call 23; exact hk.call (HND.out _ hk.below)) | (intro hk; go_at_call 24; exact hk.call (HFR.out _ hk.below)) | (intro hk; go_at_call 8; exact hk.call (HWK.out _ hk.below))))
          go_big_quiet_want
          refine quiet_load_sl 26 9 (.tmp 159) rfl ⟨qb, 3, none⟩ rfl _ (fun W hk => HC3.out W hk.below) Tryd.underlying26 ?_
          go_simp
          go_big_quiet_on
          repeat (go_big_quiet_step (first | exact fun _ => rfl | (intro hk; go_at_call 23; exact hk.call (HND.out _ hk.below)) | (intro hk; go_at_call 24; exact hk.call (HFR.out _ hk.below)) | (intro hk; go_at_call 8; exact hk.call (HWK.out _ hk.below))))
          refine wpQuiet_nil ?_
          intro w3 hk3
          have HOL3 := Lib.hid (HOL.out.trans (hk3.below.mono HOL.out.size))
          clear hk3
          go_wp2_with fail
          go_ret
          exact ⟨rfl, HOL3.out⟩
        · go_wp2_with fail
          refine wp_region_kept (by kernel_rfl) (by kernel_rfl) ?_
          repeat (go_big_quiet_step (first | exact fun _ => rfl | (intro hk; go_at_call 23; exact hk.call (HND.out _ hk.below)) | (intro hk; go_at_call 24; exact hk.call (HFR.out _ hk.below)) | (intro hk; go_at_call 8; exact hk.call (HWK.out _ hk.below))))
          go_big_quiet_want
          refine quiet_load_sl 26 9 (.tmp 156) rfl ⟨qb, 3, none⟩ rfl _ (fun W hk => HC3.out W hk.below) Tryd.underlying26 ?_
          go_simp
          go_big_quiet_on
          repeat (go_big_quiet_step (first | exact fun _ => rfl | (intro hk; go_at_call 23; exact hk.call (HND.out _ hk.below)) | (intro hk; go_at_call 24; exact hk.call (HFR.out _ hk.below)) | (intro hk; go_at_call 8; exact hk.call (HWK.out _ hk.below))))
          go_big_quiet_want
          refine quiet_load_sl 26 9 (.tmp 159) rfl ⟨qb, 3, none⟩ rfl _ (fun W hk => HC3.out W hk.below) Tryd.underlying26 ?_
          go_simp
          go_big_quiet_on
          repeat (go_big_quiet_step (first | exact fun _ => rfl | (intro hk; go_at_call 23; exact hk.call (HND.out _ hk.below)) | (intro hk; go_at_call 24; exact hk.call (HFR.out _ hk.below)) | (intro hk; go_at_call 8; exact hk.call (HWK.out _ hk.below))))
          refine wpQuiet_nil ?_
          intro w3 hk3
          have HOL3 := Lib.hid (HOL.out.trans (hk3.below.mono HOL.out.size))
          clear hk3
          go_wp2_with fail
          go_ret
          exact ⟨rfl, HOL3.out⟩
  · rw [Bool.not_eq_true] at hls
    rw [hls] at HLI
    have HW := Lib.hid (works_any _ (H0.out.2.2.1.below HB2.out))
    go_wp2_with fail
    refine HLI.out.mono ?_
    rintro e w3 ⟨rfl, rfl⟩
    go_wp2_with fail
    refine HW.out.mono ?_
    rintro e w4 ⟨rfl, hb4⟩
    have HB4 := Lib.hid (H0.out.2.2.2.trans ((HB2.out.trans (hb4.mono HB2.out.size)).mono H0.out.2.2.2.size))
    clear hb4
    go_wp2_with fail
    go_ret
    exact ⟨rfl, HB4.out⟩
end Go.Proofs.YtldmplfgnpepjaaDoor.Wal
