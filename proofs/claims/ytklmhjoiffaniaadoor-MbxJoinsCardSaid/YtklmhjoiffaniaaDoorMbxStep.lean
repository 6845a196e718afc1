/-
  The document's loop over the pieces in plain words: what each way of a round leads to.
-/
import Derived.Test.YtklmhjoiffaniaaDoorMbxPlain
namespace Go.Proofs.YtklmhjoiffaniaaDoor.Mbx
open Go.Proofs.YtklmhjoiffaniaaDoor.Lex
open Go.Proofs.YtklmhjoiffaniaaDoor.Addr (ofL)

def grpC (n : Nat) (ps : List Pc) (B : List Bx) : Rs := match takeP 59 ps with
  | some r => (0, r, B)
  | none => match takeP 44 ps with
    | some r => grp n r B
    | none => no 130
/-- Behind a piece: in a group, or not. -/
def stR (n m : Nat) (g : Bool) (ps : List Pc) (B : List Bx) : Nat × List Bx := if g = true then contK (lst m) (grp (n + 1) ps B) else lst (m + 1) ps B
/-- Behind a mailbox, ahead of its sign. -/
def mtR (n m : Nat) (g : Bool) (s : ByteArray) (rest : List Pc) (B : List Bx) : Nat × List Bx := contK (lst m) (if g = true then grpC n (⟨[], s⟩ :: rest) B else (0, ⟨[], s⟩ :: rest, B))
theorem cont_no {k : List Pc → List Bx → Nat × List Bx} {c : Nat} (h : c ≠ 0) : contK k (no c) = (c, []) := by
  unfold contK no
  rw [if_neg h]
theorem cont_yes {k : List Pc → List Bx → Nat × List Bx} {ps : List Pc} {B : List Bx} : contK k (0, ps, B) = if doneP ps = true then (0, B) else match takeP 44 ps with
    | some r => k r B
    | none => (130, []) := rfl
section
variable {n m : Nat} {g : Bool} {p q u : Pc} {r r1 r2 : List Pc} {B : List Bx}
theorem st_mbx (hc : g = true ∨ colon p = false) : stR n m g (p :: r) B = if (mbxP (p :: r) B).1 = 0 then contK (lst m) (if g = true then grpC n (mbxP (p :: r) B).2.1 (mbxP (p :: r) B).2.2 else (0, (mbxP (p :: r) B).2.1, (mbxP (p :: r) B).2.2)) else ((mbxP (p :: r) B).1, []) := by
  unfold stR
  by_cases h0 : (mbxP (p :: r) B).1 = 0
  · rw [if_pos h0]
    cases g
    · have hc : colon p = false := by
        rcases hc with h | h
        · cases h
        · exact h
      rw [if_neg (by decide), if_neg (by decide), lst, prt, if_neg (by rw [hc]; decide)]
      congr 1
      exact Prod.ext h0 rfl
    · rw [if_pos rfl, if_pos rfl, grp, if_pos h0]
      rfl
  · rw [if_neg h0]
    cases g
    · have hc : colon p = false := by
        rcases hc with h | h
        · cases h
        · exact h
      rw [if_neg (by decide), lst, prt, if_neg (by rw [hc]; decide)]
      unfold contK
      rw [if_neg h0]
    · rw [if_pos rfl, grp, if_neg h0, cont_no h0]
theorem st_plain_bad (hc : g = true ∨ colon p = false) (ha : angle p = false) (h : (ofL p.l).2 ≠ 0) : stR n m g (p :: r) B = ((ofL p.l).2, []) := by
  have e : mbxP (p :: r) B = no (ofL p.l).2 := by
    rw [mbxP, if_neg (by rw [ha]; decide), adr_bad h, if_neg h]
  rw [st_mbx hc, e]
  exact if_neg h
theorem st_plain_full (hc : g = true ∨ colon p = false) (ha : angle p = false) (h : (ofL p.l).2 = 0) (hB : B.length = 100) : stR n m g (p :: r) B = (8, []) := by
  have e : mbxP (p :: r) B = no 8 := by
    rw [mbxP, if_neg (by rw [ha]; decide), adr_full h hB, if_neg (by decide)]
  rw [st_mbx hc, e]
  rfl
theorem st_plain_ok (hc : g = true ∨ colon p = false) (ha : angle p = false) (h : (ofL p.l).2 = 0) (hB : B.length ≠ 100) : stR n m g (p :: r) B = mtR n m g p.s r (B ++ [bxOf [] (ofL p.l).1]) := by
  have e : mbxP (p :: r) B = (0, ⟨[], p.s⟩ :: r, B ++ [bxOf [] (ofL p.l).1]) := by
    rw [mbxP, if_neg (by rw [ha]; decide), adr_yes h hB, if_pos rfl]
  rw [st_mbx hc, e]
  rfl
theorem st_angle_bad (hc : g = true ∨ colon p = false) (ha : angle p = true) (h : (ofL q.l).2 ≠ 0) : stR n m g (p :: q :: r1) B = ((ofL q.l).2, []) := by
  have e : mbxP (p :: q :: r1) B = no (ofL q.l).2 := by
    rw [mbxP, if_pos ha, angP, adr_bad h, if_neg h]
  rw [st_mbx hc, e]
  exact if_neg h
theorem st_angle_full (hc : g = true ∨ colon p = false) (ha : angle p = true) (h : (ofL q.l).2 = 0) (hB : B.length = 100) : stR n m g (p :: q :: r1) B = (8, []) := by
  have e : mbxP (p :: q :: r1) B = no 8 := by
    rw [mbxP, if_pos ha, angP, adr_full h hB, if_neg (by decide)]
  rw [st_mbx hc, e]
  rfl
theorem st_angle_sign (hc : g = true ∨ colon p = false) (ha : angle p = true) (h : (ofL q.l).2 = 0) (hB : B.length ≠ 100) (hs : sgB q.s 62 = false) : stR n m g (p :: q :: r1) B = (130, []) := by
  have e : mbxP (p :: q :: r1) B = no 130 := by
    rw [mbxP, if_pos ha, angP, adr_yes h hB, if_pos rfl, hs, if_neg (by decide)]
  rw [st_mbx hc, e]
  rfl
theorem st_angle (hc : g = true ∨ colon p = false) (ha : angle p = true) (h : (ofL q.l).2 = 0) (hB : B.length ≠ 100) (hs : sgB q.s 62 = true) : stR n m g (p :: q :: r1) B = contK (lst m) (if g = true then grpC n r1 (B ++ [bxOf (nameL p.l) (ofL q.l).1]) else (0, r1, B ++ [bxOf (nameL p.l) (ofL q.l).1])) := by
  have e : mbxP (p :: q :: r1) B = (0, r1, B ++ [bxOf (nameL p.l) (ofL q.l).1]) := by
    rw [mbxP, if_pos ha, angP, adr_yes h hB, if_pos rfl, if_pos hs]
  rw [st_mbx hc, e]
  rfl
theorem take_full {c : UInt8} (hu : u.l ≠ []) : takeP c (u :: r2) = none := by
  rw [takeP, if_neg]
  rw [Bool.and_eq_true, List.isEmpty_iff]
  exact fun h => hu h.1
theorem done_full (hu : u.l ≠ []) : doneP (u :: r2) = false := by
  rw [← Bool.not_eq_true]
  intro h
  unfold doneP at h
  split at h
  · rename_i v h1
    obtain ⟨rfl, _⟩ := List.cons.inj h1
    rw [Bool.and_eq_true, List.isEmpty_iff] at h
    exact hu h.1
  · cases h
theorem st_angle_more (hc : g = true ∨ colon p = false) (ha : angle p = true) (h : (ofL q.l).2 = 0) (hB : B.length ≠ 100) (hs : sgB q.s 62 = true) (hu : u.l ≠ []) : stR n m g (p :: q :: u :: r2) B = (130, []) := by
  rw [st_angle hc ha h hB hs]
  cases g
  · rw [if_neg (by decide), cont_yes, done_full hu, take_full hu, if_neg (by decide)]
  · rw [if_pos rfl]
    unfold grpC
    rw [take_full hu, take_full hu]
    exact cont_no (by decide)
theorem st_angle_ok (hc : g = true ∨ colon p = false) (ha : angle p = true) (h : (ofL q.l).2 = 0) (hB : B.length ≠ 100) (hs : sgB q.s 62 = true) (hu : u.l = []) : stR n m g (p :: q :: u :: r2) B = mtR n m g u.s r2 (B ++ [bxOf (nameL p.l) (ofL q.l).1]) := by
  rw [st_angle hc ha h hB hs]
  obtain ⟨ul, us⟩ := u
  obtain rfl : ul = [] := hu
  rfl
theorem st_colon_empty (hc : colon p = true) (hq : q.l = []) (hs : sgB q.s 59 = true) : stR n m false (p :: q :: r1) B = mtR m m true q.s r1 B := by
  have hs' := hs
  unfold sgB at hs'
  unfold stR mtR
  rw [if_neg (by decide), if_pos rfl, lst, prt, if_pos hc]
  unfold grp0 grpC
  rw [take_yes hq (beq_iff_eq.1 hs'), take_yes (u := ⟨[], q.s⟩) rfl (beq_iff_eq.1 hs')]
theorem st_colon_go (hc : colon p = true) (hq : q.l ≠ [] ∨ sgB q.s 59 = false) : stR n (m + 1) false (p :: q :: r1) B = stR m (m + 1) true (q :: r1) B := by
  have ht : takeP 59 (q :: r1) = none := by
    rcases hq with h | h
    · exact take_full h
    · exact take_no (fun e => by unfold sgB at h; rw [e] at h; cases h)
  unfold stR
  rw [if_neg (by decide), if_pos rfl, lst, prt, if_pos hc]
  unfold grp0
  rw [ht]
theorem done_one {s : ByteArray} (hs : bl s = []) : doneP [⟨[], s⟩] = true := by
  unfold doneP
  simp [hs]
theorem done_no {s : ByteArray} {rest : List Pc} (hs : bl s ≠ []) : doneP (⟨[], s⟩ :: rest) = false := by
  rw [← Bool.not_eq_true]
  intro h
  unfold doneP at h
  split at h
  · rename_i v h1
    obtain ⟨rfl, _⟩ := List.cons.inj h1
    rw [Bool.and_eq_true] at h
    exact hs (List.isEmpty_iff.1 h.2)
  · cases h
theorem mt_semi {s : ByteArray} {rest : List Pc} (hs : sgB s 59 = true) : mtR n m true s rest B = contK (lst m) (0, rest, B) := by
  unfold mtR grpC
  unfold sgB at hs
  rw [if_pos rfl, take_yes rfl (beq_iff_eq.1 hs)]
theorem mt_semi_more {s : ByteArray} (hs : sgB s 59 = true) (hu : u.l ≠ []) : mtR n m true s (u :: r2) B = (130, []) := by
  rw [mt_semi hs, cont_yes, done_full hu, take_full hu, if_neg (by decide)]
theorem pc_nil (hu : u.l = []) : u = ⟨[], u.s⟩ := by
  obtain ⟨ul, us⟩ := u
  obtain rfl : ul = [] := hu
  rfl
theorem mt_semi_end {s : ByteArray} (hs : sgB s 59 = true) (hu : u.l = []) (he : bl u.s = []) : mtR n m true s [u] B = (0, B) := by
  rw [mt_semi hs, cont_yes, pc_nil hu, done_one he, if_pos rfl]
theorem mt_semi_no {s : ByteArray} (hs : sgB s 59 = true) (hu : u.l = []) (he : bl u.s ≠ []) (h44 : bl u.s ≠ [44]) : mtR n m true s (u :: r2) B = (130, []) := by
  rw [mt_semi hs, cont_yes, pc_nil hu, done_no he, take_no (u := ⟨[], u.s⟩) h44, if_neg (by decide)]
theorem mt_semi_on {s : ByteArray} (k : Nat) (hs : sgB s 59 = true) (hu : u.l = []) (h44 : bl u.s = [44]) : mtR n (m + 1) true s (u :: r2) B = stR k m false r2 B := by
  rw [mt_semi hs, cont_yes, pc_nil hu, done_no (by rw [h44]; simp), take_yes (u := ⟨[], u.s⟩) rfl h44, if_neg (by decide)]
  rfl
theorem mt_end {s : ByteArray} (he : bl s = []) : mtR n m false s [] B = (0, B) := by
  unfold mtR
  rw [if_neg (by decide), cont_yes, done_one he, if_pos rfl]
theorem mt_no {s : ByteArray} {rest : List Pc} (h44 : bl s ≠ [44]) (h1 : g = true ∨ bl s ≠ []) (h2 : g = false ∨ sgB s 59 = false) : mtR n m g s rest B = (130, []) := by
  unfold mtR
  cases g
  · have he : bl s ≠ [] := by
      rcases h1 with h | h
      · cases h
      · exact h
    rw [if_neg (by decide), cont_yes, done_no he, take_no h44, if_neg (by decide)]
  · have h59 : sgB s 59 = false := by
      rcases h2 with h | h
      · cases h
      · exact h
    rw [if_pos rfl]
    unfold grpC
    rw [take_no (c := 59) (u := ⟨[], s⟩) (fun e => by unfold sgB at h59; rw [show bl s = [59] from e] at h59; cases h59), take_no (c := 44) (u := ⟨[], s⟩) h44]
    exact cont_no (by decide)
theorem mt_on_list {s : ByteArray} {rest : List Pc} (k : Nat) (h44 : bl s = [44]) : mtR n (m + 1) false s rest B = stR k m false rest B := by
  unfold mtR
  rw [if_neg (by decide), cont_yes, done_no (by rw [h44]; simp), take_yes rfl h44, if_neg (by decide)]
  rfl
theorem mt_on_grp {s : ByteArray} {rest : List Pc} (h44 : bl s = [44]) : mtR (n + 1) m true s rest B = stR n m true rest B := by
  unfold mtR grpC
  rw [if_pos rfl, take_no (by rw [h44]; decide), take_yes rfl h44]
  rfl
end
/-- Pieces of tokens: the last one alone has no sign. -/
def Wf (ps : List Pc) : Prop := ∃ T, (∀ t ∈ T, Ok t) ∧ cutL T = ps
theorem Wf.ne {ps : List Pc} (h : Wf ps) : ps ≠ [] := by
  obtain ⟨T, _, rfl⟩ := h
  exact cut_ne T
theorem Wf.cons {p : Pc} {r : List Pc} (h : Wf (p :: r)) : (p.s = ⟨#[]⟩ ∧ r = []) ∨ (bl p.s ≠ [] ∧ Wf r) := by
  obtain ⟨T, ho, hc⟩ := h
  obtain ⟨L, _, hw⟩ := cut_ways T
  rcases hw with ⟨_, e⟩ | ⟨t, T', rfl, he, e⟩
  · rw [hc] at e
    obtain ⟨rfl, rfl⟩ := List.cons.inj e
    exact .inl ⟨rfl, rfl⟩
  · rw [hc] at e
    obtain ⟨rfl, rfl⟩ := List.cons.inj e
    refine .inr ⟨?_, T', fun x hx => ho x (by simp [hx]), rfl⟩
    rcases ho t (by simp) with h | h | ⟨_, c, h, _⟩
    · have := end_kind he; omega
    · have := end_kind he; omega
    · show bl t.text ≠ []
      rw [h]
      simp
end Go.Proofs.YtklmhjoiffaniaaDoor.Mbx
